/- Texts of this claim, packed: SnLm, SnLs. -/
import Derived.Test.YteojhhfcfdkmdaaPm12
import Derived.Test.YteojhhfcfdkmdaaPm43
import Derived.Test.YteojhhfcfdkmdaaPm35
set_option linter.unusedSimpArgs false
set_option linter.unusedVariables false
/- A writer, a snapshot under way, and the moments that were seen: what lies where, and what a step leaves; conditions: they lie. -/
namespace Go.Proofs.Yteojhhfcfdkmdaa
open Go.RowKit
set_option linter.unusedVariables false
/-- A node, trimmed. -/
def trN (c : Nd) : Nd := c.tr c.len c.len
/-- The moments, one behind the other. -/
def moL (C : Nat → Nd) : Nat → List Value
  | 0 => []
  | k + 1 => moL C k ++ (trN (C k)).cl
theorem moL_old {C C' : Nat → Nd} : ∀ {k : Nat}, (∀ a, a < k → C' a = C a) → moL C' k = moL C k
  | 0, _ => rfl
  | k + 1, h => by
    show moL C' k ++ _ = moL C k ++ _
    rw [moL_old fun a ha => h a (by omega), h k (by omega)]
theorem moL_len (C : Nat → Nd) : ∀ k, (moL C k).length = k * 21
  | 0 => rfl
  | k + 1 => by
    show (moL C k ++ _).length = _
    rw [List.length_append, moL_len C k, (trN (C k)).size]
    omega
theorem moL_at {C : Nat → Nd} : ∀ {t k j : Nat}, k < t → j < 21 → (moL C t)[21 * k + j]? = (trN (C k)).cl[j]?
  | 0, _, _, h, _ => absurd h (Nat.not_lt_zero _)
  | t + 1, k, j, h, hj => by
    show (moL C t ++ _)[_]? = _
    by_cases e : k < t
    · rw [List.getElem?_append_left (by rw [moL_len]; omega)]
      exact moL_at e hj
    · obtain rfl : k = t := by omega
      rw [List.getElem?_append_right (by rw [moL_len]; omega), moL_len, show 21 * k + j - k * 21 = j by omega]
theorem ownsRow_but {w w' : World} {B s n : Nat} {e : TypeId} {v : Value} {xs : List Value} {p : Nat → Prop} (h : w.ownsRow B e s v n xs) (hb : But w w' p) (hv : ∀ k, v.ownBlock = some k → ¬ p k) : w'.ownsRow B e s v n xs := by
  obtain ⟨h1, h2⟩ := h
  refine ⟨h1, ?_⟩
  rcases h2 with h2 | ⟨g, cap, cur, rfl, hg, hh, r⟩
  · exact .inl h2
  · exact .inr ⟨g, cap, cur, rfl, hg, (hb.block g (Array.getElem?_eq_some_iff.1 hh).1 (hv g rfl)).trans hh, r⟩
theorem ownsRow_lt {w : World} {B s n : Nat} {e : TypeId} {v : Value} {xs : List Value} (h : w.ownsRow B e s v n xs) : ∀ k, v.ownBlock = some k → k < w.heap.size := by
  intro k hk
  rcases h.2 with ⟨rfl, _⟩ | ⟨g, cap, cur, rfl, hg, hh, r⟩
  · cases hk
  · have : g = k := by simpa [Value.ownBlock] using hk
    subst this
    exact (Array.getElem?_eq_some_iff.1 hh).1
theorem Lds.ld24 {n : Nat} {s : St} (h : Lds 64 n s) (hn : n ≤ 900000) : Lds 64 (n + 24) { s with ld := s.ld + 24 } :=
  ⟨h.nls, ⟨h.ok.las, h.ok.vie, h.ok.put, h.ok.few, h.ok.mks, ⟨by have := h.num; show s.ld + 24 < _; omega, h.ok.num.2.1, h.ok.num.2.2.1, h.ok.num.2.2.2⟩⟩, h.pl, fun j => Nat.le_trans (h.few j) (by omega), h.vl, by have := h.num; show s.ld + 24 ≤ _; omega, by have := h.num; show s.st ≤ _; omega, by have := h.num; show s.fl ≤ _; omega, by have := h.num; show s.fe ≤ _; omega⟩
theorem ownBk {B : Nat} {W : World} {v : Value} {xs : List Value} {c : Nat} {e : TypeId} {s : Nat} (h : W.ownsRow B e s v c xs) : ∀ q, v.ownBlock = some q → B ≤ q := by
  intro q hq
  rcases h.2 with ⟨rfl, _⟩ | ⟨g, cap, cur, rfl, hb, _⟩
  · cases hq
  · have : g = q := by simpa [Value.ownBlock] using hq
    omega
section
variable {w0 W W' w' : World} {gw gs mS mL t m : Nat} {low : Int} {y : Lay} {s : St} {x : Wr} {nE : Nd} {l : List Ask3} {R : Option (Nat × RnRS × Value)} {C : Nat → Nd} {cN : Nat → Nat} {S : SS} {V : Value}
theorem WS.rlt (h : WS w0 gw mS mL low y s x nE l R W) : ∀ k, rK R k → k < W.heap.size := by
  intro k hk
  match R, h.ro, hk with
  | none, _, hk => exact hk.elim
  | some (rg, r, VR), ⟨h1, _, _⟩, hk =>
    rcases hk with rfl | ⟨h2, h3⟩
    · exact h1.lt
    · exact h1.run.ah.lt h2 h3
theorem WS.mono (h : WS w0 gw mS mL low y s x nE l R W) {mS' mL' : Nat} (h1 : mS ≤ mS') (h2 : mL ≤ mL') : WS w0 gw mS' mL' low y s x nE l R W :=
  { h with lds := h.lds.mono h2, sm := h.sm.mono h1 }
theorem RunO.but {B : Nat} {p : Nat → Prop} (h : RunO W y gw B R) (hb : But W W' p) (hp : ∀ k, rK R k → ¬ p k) {y' : Lay} (hg : y'.g = y.g) (hf : ∀ k, y'.fp k → y.fp k ∨ W.heap.size ≤ k) : RunO W' y' gw B R := by
  match R, h, hp with
  | none, _, _ => trivial
  | some (rg, r, VR), ⟨h1, h2, h3⟩, hp =>
    refine ⟨⟨⟨?_, ?_⟩, fun hk => ?_, fun b hb' h0 => ⟨fun hk => ?_, (h1.vsep b hb' h0).2⟩⟩, h2, h3⟩
    · rw [hg]
      exact hb.row h1.run.row (hp rg (.inl rfl))
    · by_cases h0 : r.left = []
      · rcases h1.run.ah with h4 | ⟨h4, _⟩
        · exact .inl h4
        · exact absurd h0 h4
      · exact h1.run.ah.same fun b hb' => hb.block b (h1.run.ah.lt h0 hb') (hp b (.inr ⟨h0, hb'⟩))
    · rcases hf rg hk with h4 | h4
      · exact h1.sep h4
      · have := h1.lt
        omega
    · rcases hf b hk with h4 | h4
      · exact (h1.vsep b hb' h0).1 h4
      · have := h1.run.ah.lt h0 hb'
        omega
/-- The memory turned, the writer's own blocks did not. -/
theorem WS.turn (h : WS w0 gw mS mL low y s x nE l R W) {p : Nat → Prop} (hb : But W W' p) (hp : ∀ k, p k → w0.heap.size ≤ k) (hpw : ¬ p gw) (hpr : ∀ k, rK R k → ¬ p k) {y' : Lay} {s' : St} {mL' : Nat} (hm : MemAt W' y' s') (hg : y'.g = y.g) (hf : ∀ k, y'.fp k → y.fp k ∨ W.heap.size ≤ k) (hl : Lds 64 mL' s') (hs : Small s' mS) (hv : s'.view = s.view) : WS w0 gw mS mL' low y' s' x nE l R W' := by
  obtain ⟨V, hr, ha⟩ := h.row
  have hsz := h.lw.size
  have hgw := hr.lt
  refine { h with mem := hm, fm := fun k hk => ?_, sep := fun hk => ?_, row := ⟨V, by rw [hg]; exact hb.row hr hpw, ha⟩, ro := h.ro.but hb hpr hg hf, lds := hl, sm := hs, mi := mem_same h.mi hv, lw := h.lw.trans (hb.below hsz hp) }
  · rcases hf k hk with h1 | h1
    · exact h.fm k h1
    · omega
  · rcases hf gw hk with h1 | h1
    · exact h.sep h1
    · omega
/-- All that lies. -/
structure LB (w0 W : World) (gw gs mS mL : Nat) (low : Int) (y : Lay) (s : St) (x : Wr) (nE : Nd) (l : List Ask3) (R : Option (Nat × RnRS × Value)) (C : Nat → Nd) (cN : Nat → Nat) (t m : Nat) (S : SS) (V : Value) : Prop where
  ws : WS w0 gw mS mL low y s x nE l R W
  hw : HW C cN t x
  sn : SnIn (Xc C) t low S
  sa : SnapAt W gs (some ⟨y.g, 0, none⟩) S
  good : S.Good
  ad : S.a = 1088
  sk : S.k = 0
  ys : ¬ y.fp gs
  ne : gs ≠ gw
  rs : ¬ rK R gs
  pg : w0.heap.size ≤ gs
  mo : W.ownsRow w0.heap.size 27 21 V m (moL C m)
  vm : ∀ k, V.ownBlock = some k → ¬ y.fp k ∧ k ≠ gw ∧ k ≠ gs ∧ ¬ rK R k
  mt : m ≤ t + 1
theorem LB.gs_lt (h : LB w0 W gw gs mS mL low y s x nE l R C cN t m S V) : gs < W.heap.size := by
  obtain ⟨cs, hr, _⟩ := h.sa
  exact hr.lt
theorem LB.below (h : LB w0 W gw gs mS mL low y s x nE l R C cN t m S V) (hb : Below W.heap.size W W') : LB w0 W' gw gs mS mL low y s x nE l R C cN t m S V := by
  obtain ⟨cs, hr, hs⟩ := h.sa
  exact { h with ws := h.ws.below hb, sa := ⟨cs, hr.below hb hr.lt, hs⟩, mo := ownS_low h.mo hb }
theorem LB.mono (h : LB w0 W gw gs mS mL low y s x nE l R C cN t m S V) {mS' mL' : Nat} (h1 : mS ≤ mS') (h2 : mL ≤ mL') : LB w0 W gw gs mS' mL' low y s x nE l R C cN t m S V := { h with ws := h.ws.mono h1 h2 }
/-- The writer's step is done. -/
theorem LB.wstep {e : Ending} (h : LB w0 W gw gs mS mL low y s x nE l R C cN t m S V) (ht : t ≤ 1000000) (hp : WSP w0 W gw mS mL low y x R e w') :
    ∃ b y' s' x' nE' l' R' C' cN', e = .returned (.bool b) ∧ y'.g = y.g ∧ LB w0 w' gw gs (mS + 1) (mL + 1) low y' s' x' nE' l' R' C' cN' (t + 1) m S V := by
  obtain ⟨b, y', s', x', nE', l', R', he, hws, hg, hrel, hbut, hfp, hrk⟩ := hp
  obtain ⟨cN', hw'⟩ := hrel C cN t ht h.hw
  obtain ⟨cs, hr, hs⟩ := h.sa
  have hlt := hr.lt
  have hmt := h.mt
  refine ⟨b, y', s', x', nE', l', R', upC C t x'.c, cN', he, hg, hws, hw', h.sn.up (fun a ha => Xc_old ha) (Nat.le_succ _), ⟨cs, ?_, by rw [hg]; exact hs⟩, h.good, h.ad, h.sk, fun hf => ?_, h.ne, fun hf => ?_, h.pg, ?_, fun k hk => ?_, by omega⟩
  · refine hbut.row hr ?_
    rintro (h1 | h1 | h1)
    · exact h.ys h1
    · exact h.ne h1
    · exact h.rs h1
  · rcases hfp gs hf with h1 | h1
    · exact h.ys h1
    · omega
  · rcases hrk gs hf with h1 | h1
    · exact h.rs h1
    · omega
  · rw [moL_old fun a ha => upC_old (by omega)]
    refine ownsRow_but h.mo hbut fun k hk => ?_
    obtain ⟨v1, v2, v3, v4⟩ := h.vm k hk
    rintro (h1 | h1 | h1)
    · exact v1 h1
    · exact v2 h1
    · exact v4 h1
  · obtain ⟨v1, v2, v3, v4⟩ := h.vm k hk
    have hkl := ownsRow_lt h.mo k hk
    refine ⟨fun hf => ?_, v2, v3, fun hf => ?_⟩
    · rcases hfp k hf with h1 | h1
      · exact v1 h1
      · omega
    · rcases hrk k hf with h1 | h1
      · exact v4 h1
      · omega
/-- The memory turned alone. -/
theorem LB.turn (h : LB w0 W gw gs mS mL low y s x nE l R C cN t m S V) {y' : Lay} {s' : St} {mL' : Nat} (hb : But W W' y.fp) (hm : MemAt W' y' s') (hg : y'.g = y.g) (hf : ∀ k, y'.fp k → y.fp k ∨ W.heap.size ≤ k) (hl : Lds 64 mL' s') (hs : Small s' mS) (hv : s'.view = s.view) : LB w0 W' gw gs mS mL' low y' s' x nE l R C cN t m S V := by
  obtain ⟨cs, hr, hss⟩ := h.sa
  have hlt := hr.lt
  have hrf : ∀ k, rK R k → ¬ y.fp k := fun k hk => by
    match R, h.ws.ro, hk with
    | none, _, hk => exact hk.elim
    | some (rg, r, VR), ⟨h1, _, _⟩, hk =>
      rcases hk with rfl | ⟨h2, h3⟩
      · exact h1.sep
      · exact (h1.vsep k h3 h2).1
  refine { h with ws := h.ws.turn hb h.ws.fm h.ws.sep hrf hm hg hf hl hs hv, sa := ⟨cs, hb.row hr h.ys, by rw [hg]; exact hss⟩, ys := fun hk => ?_, mo := ownsRow_but h.mo hb fun k hk => (h.vm k hk).1, vm := fun k hk => ?_ }
  · rcases hf gs hk with h1 | h1
    · exact h.ys h1
    · omega
  · obtain ⟨v1, v2, v3, v4⟩ := h.vm k hk
    have hkl := ownsRow_lt h.mo k hk
    refine ⟨fun hf' => ?_, v2, v3, v4⟩
    rcases hf k hf' with h1 | h1
    · exact v1 h1
    · omega
/-- A moment is kept. -/
theorem LB.app {V' : Value} (h : LB w0 W gw gs mS mL low y s x nE l R C cN t m S V) (hg : W.grownBy W' V.ownBlock) (ho : W'.ownsRow w0.heap.size 27 21 V' (m + 1) (moL C m ++ (trN (C m)).cl)) (hv : ∀ k, V'.ownBlock = some k → V.ownBlock = some k ∨ W.heap.size ≤ k) (hm : m < t + 1) : LB w0 W' gw gs mS mL low y s x nE l R C cN t (m + 1) S V' := by
  have hb : But W W' (fun k => V.ownBlock = some k) := ⟨hg.os, hg.tape, hg.output, hg.size, fun k hk hn => hg.block k hk fun e => hn e.symm⟩
  obtain ⟨cs, hr, hss⟩ := h.sa
  have hlt := hr.lt
  obtain ⟨VW, hrw, _⟩ := h.ws.row
  have hgw := hrw.lt
  have hsz := h.ws.lw.size
  refine { h with ws := h.ws.turn hb (fun k hk => ownBk h.mo k hk) (fun hk => (h.vm gw hk).2.1 rfl) (fun k hk hk2 => (h.vm k hk2).2.2.2 hk) (h.ws.mem.but hb (fun k hk hk2 => (h.vm k hk2).1 hk)) rfl (fun k hk => .inl hk) h.ws.lds h.ws.sm rfl, sa := ⟨cs, hb.row hr fun hk => (h.vm gs hk).2.2.1 rfl, hss⟩, mo := ho, vm := fun k hk => ?_, mt := hm }
  rcases hv k hk with h1 | h1
  · exact h.vm k h1
  · refine ⟨fun hf => ?_, by omega, by omega, fun hf => ?_⟩
    · have := h.ws.mem.lt k hf
      omega
    · have := h.ws.rlt k hf
      omega
end
end Go.Proofs.Yteojhhfcfdkmdaa
/- A snapshot's step among a writer's, and what it comes to; conditions: they lie. -/
namespace Go.Proofs.Yteojhhfcfdkmdaa
open Go.RowKit
set_option linter.unusedVariables false
/-- The snapshot is through. -/
structure LE (w0 W : World) (gs : Nat) (low : Int) (C : Nat → Nd) (t σ : Nat) (V : Value) : Prop where
  at_ : ∃ y s n S, SnAt W W y gs s s n S ∧ 0 < s.nl ∧ S.d = true ∧ S.k = 0 ∧ S.n = (C σ).tr ((C σ).len + 1) (C σ).len ∧ ((C σ).nx ≠ 0 → S.lo = low)
  le : σ ≤ t
  ok : CurOk (C σ)
  mo : W.ownsRow w0.heap.size 27 21 V (t + 1) (moL C (t + 1))
  lw : Below w0.heap.size w0 W
section
variable {w0 W W' w' : World} {gw gs mS mL t : Nat} {low : Int} {y : Lay} {s : St} {x : Wr} {nE : Nd} {l : List Ask3} {R : Option (Nat × RnRS × Value)} {C : Nat → Nd} {cN : Nat → Nat} {S : SS} {V : Value}
theorem val_at {s : St} (hn : s.nl = 64) {A q : Nat} (e : A = 8 * q) (hq : q < 512) : ldV s A = ((s.view.getD q 0 : Nat) : Int) ∧ ldK s A = 0 ∧ ldS s A = { s with ld := s.ld + 1 } := by
  have hc : A % 8 = 0 ∧ A < 64 * s.nl := by rw [hn]; omega
  unfold ldV ldK ldS
  rw [if_pos hc, if_pos hc, if_pos hc, show A / 8 = q by omega]
  exact ⟨rfl, rfl, rfl⟩
theorem LB.val (h : LB w0 W gw gs mS mL low y s x nE l R C cN t (t + 1) S V) : ldK s S.ask = 0 ∧ ldS s S.ask = { s with ld := s.ld + 1 } ∧ (S.ph = .bg → ldV s S.ask = Xc C t 3) ∧ (S.ph = .rd → ldV s S.ask = Xc C t S.wd) ∧ (S.ph = .lw → ldV s S.ask = low) ∧ (S.ph = .en → ldV s S.ask = Xc C t 3) := by
  have hn : s.nl = 64 := h.ws.lds.nls
  have hx : ∀ j, j < 24 → ldV s (snWordAt 1088 j) = Xc C t j ∧ ldK s (snWordAt 1088 j) = 0 ∧ ldS s (snWordAt 1088 j) = { s with ld := s.ld + 1 } := fun j hj => by
    have e : snWordAt 1088 j = 8 * (136 + j) := by
      unfold snWordAt
      rw [if_pos (by omega)]
      omega
    obtain ⟨h1, h2, h3⟩ := val_at hn e (by omega)
    refine ⟨?_, h2, h3⟩
    rw [h1, h.ws.mi.wd j hj]
    unfold Xc
    rw [h.hw.cur]
  have ha := h.ad
  have hwd := h.good.wd
  have hsn := h.sn.2
  obtain ⟨ph, d, k, a, r, wh, wd, lo, n⟩ := S
  dsimp only at ha hwd hsn
  subst ha
  cases ph with
  | bg =>
    obtain ⟨h1, h2, h3⟩ := hx 3 (by omega)
    exact ⟨h2, h3, fun _ => h1, fun e => Sp.noConfusion e, fun e => Sp.noConfusion e, fun e => Sp.noConfusion e⟩
  | rd =>
    obtain ⟨h1, h2, h3⟩ := hx wd hwd
    exact ⟨h2, h3, fun e => Sp.noConfusion e, fun _ => h1, fun e => Sp.noConfusion e, fun e => Sp.noConfusion e⟩
  | en =>
    obtain ⟨h1, h2, h3⟩ := hx 3 (by omega)
    exact ⟨h2, h3, fun e => Sp.noConfusion e, fun e => Sp.noConfusion e, fun e => Sp.noConfusion e, fun _ => h1⟩
  | lw =>
    obtain ⟨τ0, σ, s1, s2, h2, ha, hb, h26⟩ := hsn
    have h2b := hb 2 (by omega) (by omega)
    rw [if_pos ⟨by unfold wrd; omega, fun i hi h9 _ => by omega⟩] at h2b
    obtain ⟨τ, t1, t2, h26b⟩ := h2b
    have h26c : r 26 = (C τ).nx := h26b
    have h1280 : r 26 = 1280 := by
      rcases (h.hw.all τ t2).nx with h0 | h0
      · exact absurd (h26c.trans h0) h26
      · exact h26c.trans h0
    have e : snWordAt (r 26).toNat 1 = 8 * 161 := by
      rw [h1280]
      decide
    obtain ⟨v1, v2, v3⟩ := val_at hn e (by omega)
    exact ⟨v2, v3, fun e => Sp.noConfusion e, fun e => Sp.noConfusion e, fun _ => v1.trans h.ws.mi.lo, fun e => Sp.noConfusion e⟩
theorem ldK_view {s s' : St} (h : s'.view = s.view) (hn : s'.nl = s.nl) (A : Nat) : ldV s' A = ldV s A ∧ ldK s' A = ldK s A := by
  unfold ldV ldK
  rw [h, hn]
  exact ⟨rfl, rfl⟩
theorem next_a (S : SS) (v kk : Int) : (S.next v kk).a = S.a := by
  obtain ⟨ph, d, k, a, r, wh, wd, lo, n⟩ := S
  cases ph <;> rfl
/-- The snapshot's step. -/
theorem LB.snap (h : LB w0 W gw gs mS mL low y s x nE l R C cN t (t + 1) S V) (hL : mL ≤ 900000) :
    Calls Try.prog 12 #[.pointer (some ⟨gs, 0, none⟩)] W fun e w' => e = .returned (.tuple #[.bool (S.go (ldV s) (ldK s)).d, .int .i64 0]) ∧
      if (S.go (ldV s) (ldK s)).d = true then ∃ σ, LE w0 w' gs low C t σ V
      else ∃ y' s', y'.g = y.g ∧ s'.view = s.view ∧ s'.nl = s.nl ∧ LB w0 w' gw gs mS (mL + 1) low y' s' x nE l R C cN t (t + 1) (S.go (ldV s) (ldK s)) V := by
  obtain ⟨hk, hS, hbg, hrd, hlw, hen⟩ := h.val
  have hlt := h.gs_lt
  have hgo : S.go (ldV s) (ldK s) = S.next (ldV s S.ask) 0 := by
    show S.next (ldV s S.ask) (ldK s S.ask) = _
    rw [hk]
  refine (sstep_any h.ws.mem h.ws.lds.ok h.sa h.ys h.good).mono ?_
  rintro e w' ⟨rfl, y2, hm2, hsn2, T⟩
  rw [hk] at hsn2 ⊢
  rw [hS] at hm2
  rw [hgo]
  have hlds : Lds 64 (mL + 1) { s with ld := s.ld + 1 } := by
    have := h.ws.lds.load (by omega) S.ask
    rw [hS] at this
    exact this
  have hsz := h.ws.lw.size
  have hlow : Below w0.heap.size w0 w' := h.ws.lw.trans (T.but.below hsz fun k hk => by
    rcases hk with h1 | h1
    · exact h.ws.fm k h1
    · have := h.pg
      omega)
  have hmo : w'.ownsRow w0.heap.size 27 21 V (t + 1) (moL C (t + 1)) := ownsRow_but h.mo T.but fun k hk => by
    obtain ⟨v1, v2, v3, v4⟩ := h.vm k hk
    rintro (h1 | h1)
    · exact v1 h1
    · exact v3 h1
  have hys : ¬ y2.fp gs := fun hf => by
    rcases T.fp gs hf with h1 | h1
    · exact h.ys h1
    · omega
  have hrf : ∀ k, rK R k → ¬ (y.fp k ∨ k = gs) := fun k hk => by
    rintro (h1 | h1)
    · match R, h.ws.ro, hk with
      | none, _, hk => exact hk.elim
      | some (rg, r, VR), ⟨h1', _, _⟩, hk =>
        rcases hk with rfl | ⟨h2, h3⟩
        · exact h1'.sep h1
        · exact (h1'.vsep k h3 h2).1 h1
    · exact h.rs (h1 ▸ hk)
  have hws : WS w0 gw mS (mL + 1) low y2 { s with ld := s.ld + 1 } x nE l R w' := h.ws.turn T.but (fun k hk => by
      rcases hk with h1 | h1
      · exact h.ws.fm k h1
      · have := h.pg
        omega) (fun hk => hk.elim h.ws.sep fun e => h.ne e.symm) hrf hm2 T.g T.fp hlds ⟨h.ws.sm.st, h.ws.sm.fl, h.ws.sm.fe, h.ws.sm.pe⟩ rfl
  have hk2 : (S.next (ldV s S.ask) 0).k = 0 → (S.next (ldV s S.ask) 0).d = true → ∀ σ, σ ≤ t → (S.next (ldV s S.ask) 0).n = (C σ).tr ((C σ).len + 1) (C σ).len → ((C σ).nx ≠ 0 → (S.next (ldV s S.ask) 0).lo = low) → ∃ σ, LE w0 w' gs low C t σ V := fun k0 d1 σ hσ hn hlo =>
    ⟨σ, ⟨y2, { s with ld := s.ld + 1 }, mL + 1, _, ⟨⟨y2, hm2, RT.of_below y2 gs (Below.refl _ _)⟩, by rw [T.g]; exact hsn2, rfl, rfl, (congrArg (fun z => Lds z (mL + 1) { s with ld := s.ld + 1 }) h.ws.lds.nls).mpr hlds, hys, Nat.lt_of_lt_of_le hlt T.but.size⟩, by rw [hlds.nls]; decide, d1, k0, hn, hlo⟩, hσ, h.hw.all σ hσ, hmo, hlow⟩
  have hgd : (S.next (ldV s S.ask) 0).d = false → (S.next (ldV s S.ask) 0).k = 0 → SnIn (Xc C) t low (S.next (ldV s S.ask) 0) → LB w0 w' gw gs mS (mL + 1) low y2 { s with ld := s.ld + 1 } x nE l R C cN t (t + 1) (S.next (ldV s S.ask) 0) V := fun hd hk0 hin =>
    ⟨hws, h.hw, hin, by rw [T.g]; exact hsn2, SS.next_good h.good (ldV_in h.ws.lds.ok _) hd, (next_a _ _ _).trans h.ad, hk0, hys, h.ne, h.rs, h.pg, hmo, fun k hk => by
      obtain ⟨v1, v2, v3, v4⟩ := h.vm k hk
      have hkl := ownsRow_lt h.mo k hk
      refine ⟨fun hf => ?_, v2, v3, v4⟩
      rcases T.fp k hf with h1 | h1
      · exact v1 h1
      · omega, h.mt⟩
  by_cases he : S.ph = .en
  · have hv := hen he
    by_cases hs : sameR (rput S.r 27 (Xc C t 3)) = true
    · obtain ⟨σ, hσ, d1, k0, hn, hlo⟩ := sn_done h.hw h.sn he hs
      rw [← hv] at d1 k0 hn hlo
      rw [k0, d1]
      exact ⟨rfl, by rw [if_pos rfl]; exact hk2 k0 d1 σ hσ hn hlo⟩
    · rw [← hv] at hs
      obtain ⟨hin, k0⟩ := sn_again h.sn he hs
      rw [k0, hin.1]
      exact ⟨rfl, by rw [if_neg (by decide)]; exact ⟨y2, { s with ld := s.ld + 1 }, T.g, rfl, rfl, hgd hin.1 k0 hin⟩⟩
  · have hin := h.sn.step (v := ldV s S.ask) hbg hrd hlw he
    have k0 := next_k hin.1
    rw [k0, hin.1]
    exact ⟨rfl, by rw [if_neg (by decide)]; exact ⟨y2, { s with ld := s.ld + 1 }, T.g, rfl, rfl, hgd hin.1 k0 hin⟩⟩
end
end Go.Proofs.Yteojhhfcfdkmdaa
