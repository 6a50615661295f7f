/- Texts of this claim, packed: LLoad, LOfS. -/
import Derived.Test.YtahojhaeebmpoaaGreatDoorPk30
import Derived.Test.YtahojhaeebmpoaaGreatDoorPk31
import Derived.Test.YtahojhaeebmpoaaGreatDoorPk32
/- A memory and an arena's blocks lie apart; load: a slab's class and bits, of a memory, if they may be. -/
namespace Go.Proofs.YtahojhaeebmpoaaGreatDoor
open Go.RowKit Go.Sort
set_option linter.unusedVariables false
theorem MemAt.tag {w : World} {y : Lay} {s : St} (h : MemAt w y s) {k : Nat} (hk : y.fp k) : Tag w k 116 ∨ Tag w k 23 ∨ Tag w k 120 ∨ Tag w k 123 ∨ ∃ es c, w.heap[k]? = some (.map es c) := by
  rcases hk with rfl | rfl | rfl | rfl | rfl | ⟨j, v, hv, hk⟩
  · exact .inl h.row.tag
  · obtain ⟨c, hc⟩ := own_at h.las; exact .inr (.inl hc.tag)
  · obtain ⟨c, hc⟩ := own_at h.vie; exact .inr (.inl hc.tag)
  · obtain ⟨c, hc⟩ := own_at h.pen; exact .inr (.inr (.inl hc.tag))
  · obtain ⟨es, c, hc⟩ := h.marks.map; exact .inr (.inr (.inr (.inr ⟨es, c, hc⟩)))
  · have hj : j < y.ps.length := (List.getElem?_eq_some_iff.1 hv).1
    have hl : y.ps.length = s.nl := ps_len h
    obtain ⟨c, hc⟩ := (h.tails j (by omega) v _ hv (List.getElem?_eq_getElem (by rw [h.plen]; omega))).row hk
    exact .inr (.inr (.inr (.inl hc.tag)))
theorem Tag.noMap {w : World} {k : Nat} {t : TypeId} {es : Array MapEntry} {c : Nat} (h : Tag w k t) (hm : w.heap[k]? = some (.map es c)) : False := by
  obtain ⟨cs, f, h⟩ := h
  rw [h] at hm
  cases hm
/-- A block that is of one of these types is none of a memory's. -/
theorem MemAt.apart_tag {w : World} {y : Lay} {s : St} (h : MemAt w y s) {k : Nat} {t : TypeId} (ht : Tag w k t) (h1 : t ≠ 116) (h2 : t ≠ 23) (h3 : t ≠ 120) (h4 : t ≠ 123) : ¬ y.fp k := fun hk => by
  rcases h.tag hk with h' | h' | h' | h' | ⟨es, c, h'⟩
  · exact h1 (ht.same h')
  · exact h2 (ht.same h')
  · exact h3 (ht.same h')
  · exact h4 (ht.same h')
  · exact ht.noMap h'
theorem mem_slab {w : World} {y : Lay} {s : St} {z : SLay} {hs : List Hd} {fs : Nat → List Nat} (h : MemAt w y s) (hz : SlabMem w z hs fs) {k : Nat} (hk : z.fp k) : ¬ y.fp k := by
  rcases hz.tag hk with h' | h' | h' | h' | h'
  all_goals exact h.apart_tag h' (by decide) (by decide) (by decide) (by decide)
theorem MemAt.slab {w w' : World} {y : Lay} {s : St} {z z' : SLay} {hs : List Hd} {fs : Nat → List Nat} (h : MemAt w y s) (hz : SlabMem w z hs fs) (t : STurn w w' z z') : MemAt w' y s :=
  h.but t.but fun k hk hk' => mem_slab h hz hk' hk
theorem SlabMem.mem {w w' : World} {y y' : Lay} {s : St} {z : SLay} {hs : List Hd} {fs : Nat → List Nat} (hz : SlabMem w z hs fs) (h : MemAt w y s) (t : Turn w w' y y') : SlabMem w' z hs fs :=
  hz.keep t.but fun k hk hk' => mem_slab h hz hk hk'
def RM (w : World) (y : Lay) : Prop := Rms w ∧ ¬ y.fp 0
theorem RM.turn {w w' : World} {y y' : Lay} (R : RM w y) (t : Turn w w' y y') : RM w' y' := by
  refine ⟨R.1.but t.but R.2, fun h => ?_⟩
  obtain ⟨tt, hR⟩ := R.1
  rcases t.fp _ h with h1 | h1
  · exact R.2 h1
  · have := heap_lt hR; omega
/-- What load answers: the class, the bits, or ErrCorrupt. -/
def okHead (c b : Nat) : Bool := decide (c ≤ 3) && mayS b (blN c : Int)
def loadV (c b : Nat) : Value := if okHead c b then .tuple #[jv c, wv b, .int .i64 0] else .tuple #[.int .i64 0, .int .u64 0, .int .i64 6]
set_option maxRecDepth 100000 in
set_option maxHeartbeats 1600000 in
theorem sload_any {w : World} {y : Lay} {s : St} (h : MemAt w y s) (ok : s.Ok) (R : RM w y) {i : Nat} (h1 : 1 ≤ i) (h2 : i ≤ 64) (hn : 1024 * i + 64 ≤ 64 * s.nl) (hld : s.ld + 2 < 9223372036854775808) :
    Calls Tryz.prog 37 #[.pointer (some ⟨y.g, 0, none⟩), jv i] w (AnsPost w y { s with ld := s.ld + 2 } (loadV (s.view.getD (128 * i) 0) (s.view.getD (128 * i + 1) 0))) := by
  have ea : hdA (i : Int) = ((1024 * i : Nat) : Int) := by unfold hdA; rw [if_pos (by omega)]; omega
  have HH := Lib.hid fun W => header_any (i : Int) W
  have HB := Lib.hid fun W => bits_yes (s := (i : Int)) (by omega) W
  rw [ea] at HH HB
  have eb : ((1024 * i : Nat) : Int) + 8 = ((1024 * i + 8 : Nat) : Int) := by omega
  rw [eb] at HB
  have HL := Lib.hid (load_ok h ok (1024 * i) (by omega) (by omega))
  rw [show 1024 * i / 8 = 128 * i from by omega] at HL
  have hcw : s.view.getD (128 * i) 0 < 18446744073709551616 := by
    rw [List.getD_eq_getElem?_getD]
    cases hg : s.view[128 * i]? with
    | none => decide
    | some x => exact ok.vie x (List.mem_of_getElem? hg)
  have hbw : s.view.getD (128 * i + 1) 0 < 18446744073709551616 := by
    rw [List.getD_eq_getElem?_getD]
    cases hg : s.view[128 * i + 1]? with
    | none => decide
    | some x => exact ok.vie x (List.mem_of_getElem? hg)
  obtain ⟨c, hc⟩ : ∃ c, c = s.view.getD (128 * i) 0 := ⟨_, rfl⟩
  obtain ⟨b, hb⟩ : ∃ b, b = s.view.getD (128 * i + 1) 0 := ⟨_, rfl⟩
  rw [← hc] at HL hcw ⊢
  rw [← hb] at hbw ⊢
  have HMAY := Lib.hid fun (n : Int) (W : World) => bMay_any hbw n W
  have HBE := Lib.hid hb
  have OK := Lib.hid ok
  have HR := Lib.hid R
  have HA := Lib.hid (show ∀ W W' : World, True from fun _ _ => trivial)
  obtain ⟨g, hg⟩ : ∃ g, g = y.g := ⟨_, rfl⟩
  rw [← hg] at HL ⊢
  have HG := Lib.hid hg
  have hnl : 1024 * i + 8 < 64 * s.nl := by omega
  obtain ⟨A1, hA1⟩ : ∃ A, A = 1024 * i := ⟨_, rfl⟩
  rw [← hA1] at HH HL
  obtain ⟨A2, hA2⟩ : ∃ A, A = 1024 * i + 8 := ⟨_, rfl⟩
  rw [← hA2] at HB
  have HA2 := Lib.hid hA2
  have HI := Lib.hid (show 1024 * i + 64 ≤ 64 * s.nl from hn)
  have hldb := hld
  have hcN : (c : Int) < 18446744073709551616 := by omega
  unfold jv
  clear h ok R hc hb hg ea eb hA1 hA2 hnl hn hbw hcw hld
  go_enter Tryz.func37, Tryz.ntmps37
  go_wp2_with fail
  refine (HH.out _).mono ?_
  rintro e w1 ⟨rfl, rfl⟩
  go_wp2_with fail
  refine HL.out.mono ?_
  rintro e w2 ⟨rfl, y2, hm2, ht2⟩
  have HM2 := Lib.hid hm2
  have HT2 := Lib.hid ht2
  have hL2 := load_ok hm2 ⟨OK.out.las, OK.out.vie, OK.out.put, OK.out.few, OK.out.mks, ⟨by show s.ld + 1 < _; omega, OK.out.num.2⟩⟩ A2 (by rw [HA2.out]; omega) (by rw [HA2.out]; have := HI.out; show _ < 64 * s.nl; omega)
  rw [show A2 / 8 = 128 * i + 1 from by rw [HA2.out]; omega] at hL2
  rw [show ({ s with ld := s.ld + 1 } : St).view = s.view from rfl, ← HBE.out] at hL2
  rw [ht2.g, ← HG.out] at hL2
  have HL2 := Lib.hid hL2
  clear hm2 ht2 hL2 HL
  go_wp2_with fail
  refine (HB.out _).mono ?_
  rintro e w3 ⟨rfl, rfl⟩
  go_wp2_with fail
  refine HL2.out.mono ?_
  rintro e w4 ⟨rfl, y4, hm4, ht4⟩
  have HM4 := Lib.hid (show MemAt w4 y4 { s with ld := s.ld + 2 } from hm4)
  have HT4 := Lib.hid (HT2.out.trans ht4)
  have hR4 := (HR.out.turn HT4.out).1
  have HG4 := Lib.hid (blocks_any (c : Int) w4 hR4)
  rw [blN_C] at HG4
  clear hm4 ht4 HL2 hR4
  by_cases hc3 : c ≤ 3
  · have d1 : decide (3 < (c : Int)) = false := by simp; omega
    have hw1 : IntKind.i64.wrap (c : Int) = (c : Int) := IntWalk.i64_in _ (by omega)
    cases hmay : mayS b (blN c : Int) with
    | true =>
      have HV := Lib.hid (show loadV c b = .tuple #[jv c, wv b, .int .i64 0] by unfold loadV okHead; rw [decide_eq_true hc3, hmay]; rfl)
      have HMM := Lib.hid fun W => HMAY.out (blN c : Int) W
      rw [hmay] at HMM
      obtain ⟨n, hn⟩ : ∃ n, n = blN c := ⟨_, rfl⟩
      rw [← hn] at HMM HG4
      unfold wv at HMM
      clear hmay hn HMAY
      go_wp2_with fail
      refine HG4.out.mono ?_
      rintro e w5 ⟨rfl, hg5⟩
      have HG5 := Lib.hid hg5.all
      clear hg5
      go_wp2_with fail
      refine (HMM.out _).mono ?_
      rintro e w6 ⟨rfl, rfl⟩
      go_wp2
      go_ret3
      exact ⟨by rw [HV.out]; rfl, y4, HM4.out.below HG5.out, HT4.out.trans (Turn.of_below y4 HG5.out)⟩
    | false =>
      have HV := Lib.hid (show loadV c b = .tuple #[.int .i64 0, .int .u64 0, .int .i64 6] by unfold loadV okHead; rw [decide_eq_true hc3, hmay]; rfl)
      have HMM := Lib.hid fun W => HMAY.out (blN c : Int) W
      rw [hmay] at HMM
      obtain ⟨n, hn⟩ : ∃ n, n = blN c := ⟨_, rfl⟩
      rw [← hn] at HMM HG4
      unfold wv at HMM
      clear hmay hn HMAY
      go_wp2_with fail
      refine HG4.out.mono ?_
      rintro e w5 ⟨rfl, hg5⟩
      have HG5 := Lib.hid hg5.all
      clear hg5
      go_wp2_with fail
      refine (HMM.out _).mono ?_
      rintro e w6 ⟨rfl, rfl⟩
      go_wp2
      go_ret3
      exact ⟨by rw [HV.out]; rfl, y4, HM4.out.below HG5.out, HT4.out.trans (Turn.of_below y4 HG5.out)⟩
  · have d1 : decide (3 < (c : Int)) = true := by simp; omega
    have HV := Lib.hid (show loadV c b = .tuple #[.int .i64 0, .int .u64 0, .int .i64 6] by unfold loadV okHead; rw [decide_eq_false hc3]; rfl)
    clear HMAY HG4
    go_wp2
    go_ret3
    exact ⟨by rw [HV.out]; rfl, y4, HM4.out, HT4.out⟩
end Go.Proofs.YtahojhaeebmpoaaGreatDoor
/- The blocks of an arena's headers, one slab behind the other: plain facts; a store of a slab's number. -/
namespace Go.Proofs.YtahojhaeebmpoaaGreatDoor
open Go.RowKit Go.Sort
set_option linter.unusedVariables false
def hdZ : Hd := ⟨0, 0, 0, []⟩
/-- The slab q, by its class and bits. -/
def hdOf (hc hb : Nat → Nat) (q : Nat) : Hd := ⟨q + 1, hc q, hb q, blK (blN (hc q)) (hb q) (blN (hc q))⟩
/-- Of n slabs the first i are known. -/
def hsK (hc hb : Nat → Nat) (n i : Nat) : List Hd := (List.range n).map fun q => if q < i then hdOf hc hb q else hdZ
def fsK (hc hb : Nat → Nat) : Nat → Nat → List Nat
  | 0 => fun _ => []
  | i + 1 => updF (fsK hc hb i) (hc i) (grown (i + 1) (hc i) (hb i) (fsK hc hb i (hc i)) (blN (hc i)))
theorem hsK_len (hc hb : Nat → Nat) (n i : Nat) : (hsK hc hb n i).length = n := by simp [hsK]
theorem hsK_get {hc hb : Nat → Nat} {n i q : Nat} (hq : q < n) : (hsK hc hb n i)[q]? = some (if q < i then hdOf hc hb q else hdZ) := by
  unfold hsK
  rw [List.getElem?_map, List.getElem?_range hq]; rfl
theorem hsK_set {hc hb : Nat → Nat} {n i : Nat} : (hsK hc hb n i).set i (hdOf hc hb i) = hsK hc hb n (i + 1) := by
  apply List.ext_getElem?
  intro q
  rw [List.getElem?_set, hsK_len]
  by_cases hq : q < n
  · rw [hsK_get hq, hsK_get hq]
    by_cases e : i = q
    · subst e
      rw [if_pos rfl, if_pos hq, if_pos (by omega)]
    · rw [if_neg e]
      by_cases h1 : q < i
      · rw [if_pos h1, if_pos (by omega)]
      · rw [if_neg h1, if_neg (by omega)]
  · rw [List.getElem?_eq_none (l := hsK hc hb n i) (by rw [hsK_len]; omega), List.getElem?_eq_none (l := hsK hc hb n (i + 1)) (by rw [hsK_len]; omega)]
    by_cases e : i = q
    · rw [if_pos e, if_neg (by omega)]
    · rw [if_neg e]
theorem hsK_zero (hc hb : Nat → Nat) (n : Nat) : hsK hc hb n 0 = List.replicate n hdZ := by
  apply List.ext_getElem?
  intro q
  by_cases hq : q < n
  · rw [hsK_get hq, if_neg (by omega), List.getElem?_replicate, if_pos hq]
  · rw [List.getElem?_eq_none (by rw [hsK_len]; omega), List.getElem?_eq_none (by simpa using hq)]
theorem fsK_len (hc hb : Nat → Nat) (i c : Nat) : (fsK hc hb i c).length ≤ 15 * i := by
  induction i generalizing c with
  | zero => exact Nat.zero_le _
  | succ i ih =>
    show (updF (fsK hc hb i) (hc i) (grown (i + 1) (hc i) (hb i) (fsK hc hb i (hc i)) (blN (hc i))) c).length ≤ _
    by_cases e : c = hc i
    · subst e
      rw [updF_at]
      have h1 := grown_len (i + 1) (hc i) (hb i) (fsK hc hb i (hc i)) (blN (hc i))
      have h2 := ih (hc i)
      have h3 := blN_le (hc i)
      omega
    · rw [updF_ne _ _ e]
      have := ih c
      omega
/-- A store of a slab's number. -/
theorem SlabMem.put_no {w : World} {y : SLay} {hs : List Hd} {fs : Nat → List Nat} (h : SlabMem w y hs fs) {i : Nat} {x : Hd} (hx : hs[i]? = some x) (b : Nat) :
    SlabMem (w.setCell ⟨y.gh, i * 4, none⟩ (jv b)) y (hs.set i { x with no := b }) fs ∧ STurn w (w.setCell ⟨y.gh, i * 4, none⟩ (jv b)) y y := by
  have hil := (List.getElem?_eq_some_iff.1 hx).1
  obtain ⟨cs, hr, hc⟩ := h.hdr
  have hbut : But w (w.setCell ⟨y.gh, i * 4, none⟩ (jv b)) (fun k => k = y.gh) := (But.refl w (fun k => k = y.gh)).set (p := ⟨y.gh, i * 4, none⟩) (by rfl) _
  refine ⟨{ h with
    row := by rw [List.length_set]; exact hbut.row h.row h.gs_gh
    hdr := ⟨_, hr.set (i * 4) (jv b), by rw [Array.size_setIfInBounds, List.length_set]; exact hc.1, fun k z hz => ?_⟩
    blk := fun k z hz => ?_
    bne := by rw [List.length_set]; exact h.bne
    fre := fun c hc => (h.fre c hc).keep hbut fun k hk e => ?_
    len := by rw [List.length_set]; exact h.len
    pos := by rw [List.length_set]; exact h.pos
    most := by rw [List.length_set]; exact h.most
    lens := fun z hz => ?_ }, ⟨rfl, rfl, rfl, hbut.mono fun k e => .inr (.inl e), fun _ h => .inl h⟩⟩
  · rw [List.getElem?_set] at hz
    have hsz := hc.1
    by_cases e : i = k
    · subst e
      rw [if_pos rfl, if_pos hil] at hz
      cases hz
      obtain ⟨h0, h1, h2, h3⟩ := hc.2 i x hx
      refine ⟨?_, ?_, ?_, ?_⟩ <;> rw [Array.getElem?_setIfInBounds]
      · rw [if_pos rfl, if_pos (by omega)]
      · rw [if_neg (by omega)]; exact h1
      · rw [if_neg (by omega)]; exact h2
      · rw [if_neg (by omega)]; exact h3
    · rw [if_neg e] at hz
      obtain ⟨h0, h1, h2, h3⟩ := hc.2 k z hz
      refine ⟨?_, ?_, ?_, ?_⟩ <;> rw [Array.getElem?_setIfInBounds, if_neg (by omega)]
      · exact h0
      · exact h1
      · exact h2
      · exact h3
  · rw [List.getElem?_set] at hz
    by_cases e : i = k
    · subst e
      rw [if_pos rfl, if_pos hil] at hz
      cases hz
      exact (h.blk i x hx).keep hbut fun q hq eq => tagNe ((h.blk i x hx).row hq).tag hr.tag (by decide) eq
    · rw [if_neg e] at hz
      exact (h.blk k z hz).keep hbut fun q hq eq => tagNe ((h.blk k z hz).row hq).tag hr.tag (by decide) eq
  · subst e
    rcases hk with e | hk
    · exact tagNe (h.fre c hc).tags.1 hr.tag (by decide) e.symm
    · exact tagNe ((h.fre c hc).tags.2 _ hk) hr.tag (by decide) rfl
  · rcases mem_set hz with h1 | rfl
    · exact h.lens z h1
    · exact h.lens x (List.mem_of_getElem? hx)
/-- The sets' pointers, of which the first k are there. -/
def pk (gf : Nat → Nat) (k c : Nat) : Value := if c < k then fpt (gf c) else .pointer none
def scells (gh n : Nat) (gf : Nat → Nat) (k : Nat) : Array Value := #[.slice (some ⟨gh, 0, none⟩) n n, pk gf k 0, pk gf k 1, pk gf k 2, pk gf k 3]
theorem scells_set (gh n : Nat) (gf : Nat → Nat) {k : Nat} (hk : k < 4) (g : Nat) : (scells gh n gf k).setIfInBounds (1 + k) (fpt g) = scells gh n (updF gf k g) (k + 1) := by
  match k, hk with
  | 0, _ => rfl
  | 1, _ => rfl
  | 2, _ => rfl
  | 3, _ => rfl
theorem scells_get (gh n : Nat) (gf : Nat → Nat) {k : Nat} (hk : k < 4) : (scells gh n gf k)[1 + k]? = some (.pointer none) := by
  match k, hk with
  | 0, _ => rfl
  | 1, _ => rfl
  | 2, _ => rfl
  | 3, _ => rfl
structure FreeR (W : World) (gs gh n : Nat) (k : Nat) (wr : World) (gf : Nat → Nat) (fv : Nat → Value) : Prop where
  row : Row wr gs 87 (scells gh n gf k)
  but : But W wr (fun q => q = gs)
  fre : ∀ c, c < k → SetAt wr (gf c) [] (fv c)
  new : ∀ c, c < k → ∀ q, ffp (gf c) (fv c) q → W.heap.size ≤ q
  gne : ∀ c d, c < k → d < k → c ≠ d → gf c ≠ gf d
  vne : ∀ c d, c < k → d < k → c ≠ d → ∀ g, (fv c).ownBlock = some g → (fv d).ownBlock ≠ some g
theorem FreeR.next {W wr w4 : World} {gs gh n k g : Nat} {gf : Nat → Nat} {fv : Nat → Value} {v : Value} (h : FreeR W gs gh n k wr gf fv) (hk : k < 4) (hgs : gs < W.heap.size)
    (hS : SetAt w4 g [] v) (hn : ∀ q, ffp g v q → wr.heap.size ≤ q) (hb : Below wr.heap.size wr w4) :
    FreeR W gs gh n (k + 1) (w4.setCell ⟨gs, 1 + k, none⟩ (fpt g)) (updF gf k g) (updF fv k v) := by
  have hb2 : But w4 (w4.setCell ⟨gs, 1 + k, none⟩ (fpt g)) (fun q => q = gs) := (But.refl w4 (fun q => q = gs)).set (p := ⟨gs, 1 + k, none⟩) (by rfl) _
  have hsz := h.but.size
  refine ⟨?_, ?_, fun c hc => ?_, fun c hc q hq => ?_, fun c d hc hd hne => ?_, fun c d hc hd hne q hq hq' => ?_⟩
  · rw [← scells_set gh n gf hk g]
    exact (h.row.below hb h.row.lt).set (1 + k) (fpt g)
  · exact (h.but.trans (But.of_below hb (fun q => q = gs)) (fun q hq => .inl hq)).trans hb2 (fun q hq => .inl hq)
  · by_cases e : c = k
    · subst e
      rw [updF_at, updF_at]
      exact hS.keep hb2 fun q hq e => by have := hn q hq; omega
    · rw [updF_ne _ _ e, updF_ne _ _ e]
      exact ((h.fre c (by omega)).below hb).keep hb2 fun q hq e => by have := h.new c (by omega) q hq; omega
  · by_cases e : c = k
    · subst e
      rw [updF_at, updF_at] at hq
      have := hn q hq; omega
    · rw [updF_ne _ _ e, updF_ne _ _ e] at hq
      exact h.new c (by omega) q hq
  · have hlt : ∀ c, c < k → gf c < wr.heap.size := fun c hc => (h.fre c hc).fp (.inl rfl)
    have hge := hn g (.inl rfl)
    by_cases e : c = k
    · subst e
      rw [updF_at, updF_ne _ _ (Ne.symm hne)]
      have := hlt d (by omega); omega
    · rw [updF_ne _ _ e]
      by_cases e2 : d = k
      · subst e2
        rw [updF_at]
        have := hlt c (by omega); omega
      · rw [updF_ne _ _ e2]
        exact h.gne c d (by omega) (by omega) hne
  · have hlt : ∀ c, c < k → ∀ q, (fv c).ownBlock = some q → q < wr.heap.size := fun c hc q hq => (h.fre c hc).fp (.inr hq)
    by_cases e : c = k
    · subst e
      rw [updF_at] at hq
      rw [updF_ne _ _ (Ne.symm hne)] at hq'
      have := hlt d (by omega) q hq'
      have := hn q (.inr hq)
      omega
    · rw [updF_ne _ _ e] at hq
      by_cases e2 : d = k
      · subst e2
        rw [updF_at] at hq'
        have := hlt c (by omega) q hq
        have := hn q (.inr hq')
        omega
      · rw [updF_ne _ _ e2] at hq'
        exact h.vne c d (by omega) (by omega) hne q hq hq'
theorem info_header : (Tryz.prog.info? 91).map (fun i => (i.zero, i.size, i.bytes)) = some (some (.agg #[.int .i64 0, .int .i64 0, .int .u64 0, .slice none 0 0]), 4, 48) := by kernel_rfl
theorem made_get {z : Array Value} {n i r : Nat} {v : Value} (hz : z.size = 4) (hr : r < 4) (hi : i < n) (hv : z[r]? = some v) : (madeCells z (n * 4))[i * 4 + r]? = some v := by
  unfold madeCells
  rw [Array.getElem?_map, Array.getElem?_range, if_pos (by omega), Option.map_some, hz]
  rw [show (i * 4 + r) % 4 = r from by omega]
  rw [getElem!_def, hv]
theorem zero_slab {W : World} {gs gh n : Nat} {wr : World} {gf : Nat → Nat} {fv : Nat → Value} (h : FreeR W gs gh n 4 wr gf fv) (hh : Row W gh 91 (madeCells #[.int .i64 0, .int .i64 0, .int .u64 0, .slice none 0 0] (n * 4))) (hne : gs ≠ gh) (h0 : 0 < n) (h1 : n ≤ 64) :
    SlabMem wr ⟨gs, gh, n, fun _ => .slice none 0 0, gf, fv⟩ (List.replicate n hdZ) (fun _ => []) := by
  have hl : (List.replicate n hdZ).length = n := List.length_replicate
  have hz : ∀ (i : Nat) (x : Hd), (List.replicate n hdZ)[i]? = some x → i < n ∧ x = hdZ := fun i x hx => by
    have hi := (List.getElem?_eq_some_iff.1 hx).1
    rw [hl] at hi
    exact ⟨hi, List.eq_of_mem_replicate (List.mem_of_getElem? hx)⟩
  refine ⟨by rw [hl]; exact h.row, ⟨_, h.but.row hh (Ne.symm hne), by rw [size_madeCells, hl]; omega, fun i x hx => ?_⟩, fun i x hx => ?_, fun i j _ _ _ g hg => (by cases hg), fun c hc => h.fre c hc, fun c d hc hd => h.gne c d hc hd, fun c d hc hd => h.vne c d hc hd, hl.symm, by rw [hl]; exact h0, by rw [hl]; exact h1, fun c _ => Nat.zero_le _, fun x hx => ?_⟩
  · obtain ⟨hi, rfl⟩ := hz i x hx
    exact ⟨made_get (r := 0) rfl (by decide) hi rfl, made_get (r := 1) rfl (by decide) hi rfl, made_get (r := 2) rfl (by decide) hi rfl, made_get (r := 3) rfl (by decide) hi rfl⟩
  · obtain ⟨hi, rfl⟩ := hz i x hx
    exact .inl ⟨rfl, rfl⟩
  · rw [List.eq_of_mem_replicate hx]
    exact ⟨Nat.zero_le _, Nat.zero_le _⟩
end Go.Proofs.YtahojhaeebmpoaaGreatDoor
