/- Texts of this claim, packed: HoK. -/
import Derived.Test.YtiefgmibgdidpaaGreatDoorPh35
import Derived.Test.YtiefgmibgdidpaaGreatDoorPh30
import Derived.Test.YtiefgmibgdidpaaGreatDoorPh43
/- A hold of a node that is whole, in a memory in which nobody stores: what stands behind each of its steps; conditions: the lock is free, the snapshot comes to such a node. -/
namespace Go.Proofs.YtiefgmibgdidpaaGreatDoor
open Go.RowKit
set_option linter.unusedVariables false
theorem callHTry : ∀ (w : World) (v : Value), (callFunc 32 #[v]).run Tryz.prog w = .ok (.enter 32 #[v]) w := fun w v => enters_of Tryz.func32 (by kernel_rfl) rfl #[v] w
theorem callHRead : ∀ (w : World) (v : Value), (callFunc 76 #[v]).run Tryz.prog w = .ok (.enter 76 #[v]) w := fun w v => enters_of Tryz.func76 (by kernel_rfl) rfl #[v] w
/-- What must hold where a hold begins. -/
structure HOk (w6 : World) (ym : Lay) (gh gx t b n0 n c a T : Nat) (q : Option Addr) (key : Int) (s0 : St) (N : Nd) (S' : SS) : Prop where
  mem : MemAt w6 ym s0
  lds : Lds s0.nl n0 s0
  hd : HoAt w6 gh (HF.new (some ⟨gx, 0, none⟩) (c : Int) key (a : Int) gh)
  ka : KAt w6 t b (lk0 n)
  site : SiteAt w6 gx (some ⟨ym.g, 0, none⟩) q (some ⟨t, 0, none⟩)
  hc : c < n
  nh : ¬ ym.fp gh
  nt : ¬ ym.fp t
  nb : ¬ ym.fp b
  nx : ¬ ym.fp gx
  ht : gh ≠ t
  hb : gh ≠ b
  hx : gx ≠ gh
  xt : gx ≠ t
  xb : gx ≠ b
  nl : 0 < s0.nl
  a0 : a ≠ 0
  ga : a < 18446744073709551616
  vb : ∀ A, 0 ≤ ldV s0 A ∧ ldV s0 A < 18446744073709551616
  goes : Goes (ldV s0) (ldK s0) (SS.new a) T S'
  d : S'.d = true
  k : S'.k = 0
  n_ : S'.n = N
  nx0 : N.nx = 0
  inv : N.inv < 0
  act : ¬ (N.act 0 false).length < N.len
  t1 : 1 ≤ T
  few : n0 + T ≤ 900000
section
variable {w6 w7 W Wl W' : World} {ym : Lay} {gh gx t b n0 n c a T i gs m : Nat} {q : Option Addr} {key : Int} {s0 s : St} {N : Nd} {S' S : SS} {F : HF} {lk : Lk}
/-- The locks once it has its own. -/
def lkH (n c a : Nat) : Lk := tryS (lk0 n) c a
/-- A hold that has its lock, and looks. -/
def hfR (gx : Nat) (c : Nat) (key : Int) (a gh gs : Nat) : HF := { HF.new (some ⟨gx, 0, none⟩) (c : Int) key (a : Int) gh with lk := true, sn := .pointer (some ⟨gs, 0, none⟩), nx := nextV 76 gh }
def hfE (gx : Nat) (c : Nat) (key : Int) (a gh gs : Nat) (N : Nd) : HF := { hfR gx c key a gh gs with n := N, d := true }
/-- What its site answers. -/
theorem siteK {y : Lay} {gt : Nat} (hm : MemAt W y s) (hnl : 0 < s.nl) (hs : SiteAt W gx (some ⟨y.g, 0, none⟩) q (some ⟨gt, 0, none⟩)) (hk : KAt W gt b lk) : SiteK W (some ⟨gx, 0, none⟩) (some ⟨y.g, 0, none⟩) ((64 * s.nl : Nat) : Int) (lk.n : Int) :=
  ⟨fun W2 h2 => siMem_yes (Row.below hs h2 hs.lt), fun W2 h2 => size_yes (hm.below h2), fun W2 h2 => siClients_of (siLocks_yes (Row.below hs h2 hs.lt)) (clients_yes (hk.below h2)), by omega⟩
/-- What stands behind so many steps. -/
def HKI (w6 : World) (ym : Lay) (gh gx t b n0 n c a T : Nat) (key : Int) (s0 : St) (i : Nat) (W : World) : Prop :=
  (i = 0 ∧ Below w6.heap.size w6 W) ∨
  (1 ≤ i ∧ i ≤ T ∧ ∃ w7 gs m s, But w6 w7 (fun k => k = gh ∨ k = t ∨ k = b) ∧ KAt w7 t b (lkH n c a) ∧ m ≤ n0 + i ∧ s.view = s0.view ∧ s.nl = s0.nl ∧ HJS w7 W ym gh gs m s (SS.it (ldV s0) (ldK s0) (i - 1) (SS.new a)) (hfR gx c key a gh gs))
/-- What stands behind all of them. -/
def HKE (w6 : World) (ym : Lay) (gh gx t b n c a : Nat) (key : Int) (s0 : St) (N : Nd) (W : World) : Prop :=
  ∃ gs y s, HoAt W gh (hfE gx c key a gh gs N) ∧ KAt W t b (lkH n c a) ∧ But w6 W (fun k => ym.fp k ∨ k = gh ∨ k = t ∨ k = b) ∧ MemAt W y s ∧ y.g = ym.g ∧ (∀ k, y.fp k → ym.fp k ∨ w6.heap.size ≤ k) ∧ s.nl = s0.nl
theorem HKI.below (h : HKI w6 ym gh gx t b n0 n c a T key s0 i W) (hb : Below W.heap.size W W') : HKI w6 ym gh gx t b n0 n c a T key s0 i W' := by
  rcases h with ⟨h0, h⟩ | ⟨h1, h2, w7, gs, m, s, h3, h4, h5, h6, h7, h8⟩
  · exact .inl ⟨h0, Below.and h hb⟩
  · exact .inr ⟨h1, h2, w7, gs, m, s, h3, h4, h5, h6, h7, h8.below hb⟩
theorem HKE.below (h : HKE w6 ym gh gx t b n c a key s0 N W) (hb : Below W.heap.size W W') : HKE w6 ym gh gx t b n c a key s0 N W' := by
  obtain ⟨gs, y, s, h1, h2, h3, h4, h5, h6, h7⟩ := h
  exact ⟨gs, y, s, h1.below hb, h2.below hb, h3.trans (But.of_below hb (fun k => ym.fp k ∨ k = gh ∨ k = t ∨ k = b)) fun q hq => .inl hq, h4.below hb, h5, h6, h7⟩
theorem hk_begin (O : HOk w6 ym gh gx t b n0 n c a T q key s0 N S') (hb : Below w6.heap.size w6 W) :
    Calls Tryz.prog 4 #[.pointer (some ⟨gh, 0, none⟩)] W fun e w' => e = .returned (.tuple #[.bool false, .int .i64 0]) ∧ HKI w6 ym gh gx t b n0 n c a T key s0 1 w' := by
  have hd := O.hd.below hb
  have hm := O.mem.below hb
  have hs : SiteAt W gx (some ⟨ym.g, 0, none⟩) q (some ⟨t, 0, none⟩) := Row.below O.site hb O.site.lt
  have hk := O.ka.below hb
  have K := siteK hm O.nl hs hk
  have hW := hoWrong_in hd K (show (0 : Int) ≤ (c : Int) by omega) (by show (a : Int) ≠ 0; have := O.a0; omega) (by have := O.hc; show (c : Int) < (n : Int); omega)
  refine hoStep_next (s := HF.new (some ⟨gx, 0, none⟩) (c : Int) key (a : Int) gh) (D := false) (f := 32) hd rfl rfl hW callHTry (fun W1 hb1 => ?_) (fun w' h => ?_) (fun W W' h hb => h.below hb)
  · have hd1 := hd.below hb1
    have hb6 := Below.and hb hb1
    refine hoTry_yes (t := some ⟨t, 0, none⟩) (m := some ⟨ym.g, 0, none⟩) (R := fun w2 => KAt w2 t b (lkH n c a) ∧ But w6 w2 (fun k => k = t ∨ k = b)) hd1 (fun W2 hb2 => siLocks_yes (Row.below (Row.below hs hb1 hs.lt) hb2 (by have := hs.lt; have := hb1.size; omega))) (fun W2 hb2 => ?_) (fun w2 hR h2 => ?_)
    · refine (try_any ((hk.below hb1).below hb2) (c := c) (id := a) O.hc O.a0 O.ga (by show 0 < 1000000; decide)).mono ?_
      rintro e w' ⟨rfl, hk', hbt⟩
      refine ⟨rfl, (hd1.below hb2).but hbt (fun e => e.elim O.ht O.hb), hk', (But.of_below (Below.and hb6 hb2) (fun k => k = t ∨ k = b)).trans hbt fun q hq => .inl hq⟩
    · have h2' := h2.locked true
      have hbw : But w6 (w2.setCell ⟨gh, 29, none⟩ (.bool true)) (fun k => k = gh ∨ k = t ∨ k = b) := (hR.2.mono (q := fun k => k = gh ∨ k = t ∨ k = b) fun k hk => .inr hk).set (p := ⟨gh, 29, none⟩) (.inl rfl) _
      obtain ⟨w7, hw7⟩ : ∃ w7, w7 = w2.setCell ⟨gh, 29, none⟩ (.bool true) := ⟨_, rfl⟩
      have hk7 : KAt w7 t b (lkH n c a) := by
        rw [hw7]
        exact hR.1.but ((But.refl w2 (fun q => q = gh)).set (p := ⟨gh, 29, none⟩) rfl _) (fun e => O.ht e.symm) (fun e => O.hb e.symm)
      rw [← hw7] at h2' hbw ⊢
      have hm7 : MemAt w7 ym s0 := O.mem.but hbw fun k hk e => by
        rcases e with e | e | e
        · exact O.nh (e ▸ hk)
        · exact O.nt (e ▸ hk)
        · exact O.nb (e ▸ hk)
      have hs7 : SiteAt w7 gx (some ⟨ym.g, 0, none⟩) q (some ⟨t, 0, none⟩) := hbw.row O.site fun e => by
        rcases e with e | e | e
        · exact O.hx e
        · exact O.xt e
        · exact O.xb e
      refine (hoLook_any h2' (fun W3 hb3 => siMem_yes (Row.below hs7 hb3 hs7.lt))).mono ?_
      rintro e w' ⟨rfl, gs, h3, hr3, hge, hne, hb3⟩
      refine ⟨rfl, .inr ⟨Nat.le_refl _, O.t1, w7, gs, n0, s0, hbw, hk7, by omega, rfl, rfl, ⟨⟨ym, hm7.but hb3 (fun k hk e => O.nh (e ▸ hk)), rfl, fun k hk => .inl hk, fun hf => ?_, O.nh⟩, ⟨_, hr3, zeroS_is _ _ _⟩, h3, O.lds, hne, hge, hb3.mono fun q hq => .inr hq⟩⟩⟩
      have := hm7.lt gs hf
      omega
  · rcases h with ⟨h0, _⟩ | ⟨_, _, w7, gs, m, s, _, _, _, _, _, hj⟩
    · omega
    · exact ⟨_, hj.wk, rfl, rfl⟩
/-- What stays of the locks, the site. -/
theorem HJS.kept (O : HOk w6 ym gh gx t b n0 n c a T q key s0 N S') (hbw : But w6 w7 (fun k => k = gh ∨ k = t ∨ k = b)) (hk : KAt w7 t b (lkH n c a)) (h : HJS w7 W ym gh gs m s S F) :
    KAt W t b (lkH n c a) ∧ SiteAt W gx (some ⟨ym.g, 0, none⟩) q (some ⟨t, 0, none⟩) := by
  refine ⟨hk.but h.but (fun e => e.elim O.nt fun e => O.ht e.symm) (fun e => e.elim O.nb fun e => O.hb e.symm), h.but.row (hbw.row O.site fun e => ?_) fun e => e.elim O.nx O.hx⟩
  rcases e with e | e | e
  · exact O.hx e
  · exact O.xt e
  · exact O.xb e
theorem HJS.wrong (O : HOk w6 ym gh gx t b n0 n c a T q key s0 N S') (hbw : But w6 w7 (fun k => k = gh ∨ k = t ∨ k = b)) (hk : KAt w7 t b (lkH n c a)) (h : HJS w7 W ym gh gs m s S (hfR gx c key a gh gs)) (hn : s.nl = s0.nl) :
    Calls Tryz.prog 13 #[.pointer (some ⟨gh, 0, none⟩)] W fun e w' => e = .returned (.int .i64 0) ∧ Below W.heap.size W w' := by
  obtain ⟨hk2, hs2⟩ := h.kept O hbw hk
  obtain ⟨y, hm, hg, _⟩ := h.ex
  rw [← hg] at hs2
  have K := siteK hm (by rw [hn]; exact O.nl) hs2 hk2
  exact hoWrong_in h.wk K (show (0 : Int) ≤ (c : Int) by omega) (by show (a : Int) ≠ 0; have := O.a0; omega) (by have := O.hc; rw [show (lkH n c a).n = n from tryS_n _ _ _]; show (c : Int) < (n : Int); omega)
theorem hk_step (O : HOk w6 ym gh gx t b n0 n c a T q key s0 N S') (hi : i ≤ T) (h : HKI w6 ym gh gx t b n0 n c a T key s0 i W) :
    Calls Tryz.prog 4 #[.pointer (some ⟨gh, 0, none⟩)] W fun e w' => e = .returned (.tuple #[.bool (decide (i = T)), .int .i64 0]) ∧ (i < T → HKI w6 ym gh gx t b n0 n c a T key s0 (i + 1) w') ∧ (i = T → HKE w6 ym gh gx t b n c a key s0 N w') := by
  rcases h with ⟨rfl, h⟩ | ⟨h1, h2, w7, gs, m, s, hbw, hk7, hm7, hv, hn, hj⟩
  · have ht1 := O.t1
    refine (hk_begin O h).mono ?_
    rintro e w' ⟨rfl, h3⟩
    exact ⟨by rw [decide_eq_false (by omega)], fun _ => h3, fun e => by omega⟩
  · obtain ⟨u, rfl⟩ : ∃ u, i = u + 1 := ⟨i - 1, by omega⟩
    rw [Nat.add_sub_cancel] at hj
    have hfew := O.few
    have hW := hj.wrong O hbw hk7 hn
    obtain ⟨S, hS⟩ : ∃ S, S = SS.it (ldV s0) (ldK s0) u (SS.new a) := ⟨_, rfl⟩
    have hG : S.Good := by rw [hS]; exact it_good O.vb (new_SGood O.ga) u (fun v hv => O.goes.on v (by omega))
    have hgo : S.go (ldV s0) (ldK s0) = SS.it (ldV s0) (ldK s0) (u + 1) (SS.new a) := by rw [hS]; rfl
    have e1 : ldV s = ldV s0 := by funext A; unfold ldV; rw [hv, hn]
    have e2 : ldK s = ldK s0 := by funext A; unfold ldK; rw [hn]
    rw [← hS] at hj
    have hfp : ∀ k, ym.fp k → k < w7.heap.size := fun k hk => Nat.lt_of_lt_of_le (O.mem.lt k hk) hbw.size
    have hst : ∀ W1, Below W.heap.size W W1 → _ := fun W1 hb1 => hj.step hb1 (by omega) hG hfp
    rw [e1, e2, hgo] at hst
    have hsl : (ldS s S.ask).view = s0.view ∧ (ldS s S.ask).nl = s0.nl := by
      unfold ldS
      split
      · exact ⟨hv, hn⟩
      · exact ⟨hv, hn⟩
    by_cases hlast : u + 1 = T
    · have e3 : SS.it (ldV s0) (ldK s0) (u + 1) (SS.new a) = S' := by rw [hlast]; exact O.goes.it
      rw [e3, O.d, O.k] at hst
      refine (hoStep_next (s := hfR gx c key a gh gs) (D := true) (f := 76) (P := fun w' => HKE w6 ym gh gx t b n c a key s0 N w') hj.wk rfl rfl hW callHRead (fun W1 hb1 => ?_) (fun w' ⟨gs, y, s, h3, _⟩ => ⟨_, h3, rfl, rfl⟩) (fun W W' h hb => h.below hb)).mono ?_
      · refine hoRead_then (gs := gs) (hj.wk.below hb1) rfl (hst W1 hb1) (fun w' ⟨hj2, _⟩ => ?_)
        have hnl2 : 0 < (ldS s S.ask).nl := by rw [hsl.2]; exact O.nl
        have hN : ∀ W2, Below w'.heap.size w' W2 → Calls Tryz.prog 45 #[.pointer (some ⟨gs, 0, none⟩)] W2 fun e w2 => e = .returned (.tuple #[N.V, .int .i64 0]) ∧ Below W2.heap.size W2 w2 := fun W2 hb2 => by
          obtain ⟨y, hsa⟩ := hj2.at_
          exact hsa.nodeD hnl2 O.d O.k O.n_ W2 hb2
        have hH : ∀ W2, Below w'.heap.size w' W2 → Calls Tryz.prog 22 #[.pointer (some ⟨gs, 0, none⟩)] W2 fun e w2 => e = .returned (.tuple #[.int .u64 0, .bool false]) ∧ Below W2.heap.size W2 w2 := fun W2 hb2 => by
          obtain ⟨y, hsa⟩ := hj2.at_
          exact hsa.high0 hnl2 O.d O.k O.n_ (.inr O.nx0) W2 hb2
        refine (hoSeen_done hj2.wk rfl hN hH O.inv O.act).mono ?_
        rintro e w2 ⟨rfl, h3, hb3⟩
        obtain ⟨y, hm, hg, hf, _, hng⟩ := hj2.ex
        obtain ⟨hk2, _⟩ := hj2.kept O hbw hk7
        refine ⟨rfl, gs, y, _, h3, hk2.but hb3 (fun e => O.ht e.symm) (fun e => O.hb e.symm), ?_, hm.but hb3 (fun k hk e => hng (e ▸ hk)), hg, fun k hk => ?_, hsl.2⟩
        · refine ((hbw.mono (q := fun k => ym.fp k ∨ k = gh ∨ k = t ∨ k = b) fun k hk => .inr hk).trans hj2.but fun k hk => ?_).trans hb3 fun k hk => .inl (.inr (.inl hk))
          rcases hk with hk | hk
          · exact .inl (.inl hk)
          · exact .inl (.inr (.inl hk))
        · rcases hf k hk with h4 | h4
          · exact .inl h4
          · exact .inr (Nat.le_trans hbw.size h4)
      · rintro e w' ⟨rfl, h3⟩
        exact ⟨by rw [decide_eq_true hlast], fun e => by omega, fun _ => h3⟩
    · have hd := O.goes.on (u + 1) (by omega)
      have hk : (SS.it (ldV s0) (ldK s0) (u + 1) (SS.new a)).k = 0 := by
        rw [← hgo] at hd ⊢
        exact next_k hd
      rw [hd, hk] at hst
      refine (hoStep_next (s := hfR gx c key a gh gs) (D := false) (f := 76) (P := fun w' => HKI w6 ym gh gx t b n0 n c a T key s0 (u + 1 + 1) w') hj.wk rfl rfl hW callHRead (fun W1 hb1 => ?_) (fun w' h3 => ?_) (fun W W' h hb => h.below hb)).mono ?_
      · refine (hoRead_more (gs := gs) (hj.wk.below hb1) rfl (hst W1 hb1)).mono ?_
        rintro e w' ⟨rfl, hj2, _⟩
        exact ⟨rfl, .inr ⟨by omega, by omega, w7, gs, m + 1, _, hbw, hk7, by omega, hsl.1, hsl.2, hj2⟩⟩
      · rcases h3 with ⟨h0, _⟩ | ⟨_, _, w8, gs2, m2, s2, _, _, _, _, _, hj2⟩
        · omega
        · exact ⟨_, hj2.wk, rfl, rfl⟩
      · rintro e w' ⟨rfl, h3⟩
        exact ⟨by rw [decide_eq_false hlast], fun _ => h3, fun e => by omega⟩
end
end Go.Proofs.YtiefgmibgdidpaaGreatDoor
