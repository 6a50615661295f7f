/- Texts of this claim, packed: 5Put. -/
import Derived.Test.YtahojhaeebmpoaaGreatDoorPq31
import Derived.Test.YtahojhaeebmpoaaGreatDoorPq32
import Derived.Test.YtahojhaeebmpoaaGreatDoorPq03
/- The document's set of addresses, as a rising list in memory: Has, Put, Take, Drop; for at most a thousand. -/
namespace Go.Proofs.YtahojhaeebmpoaaGreatDoor
open Go Go.RowKit
set_option linter.unusedVariables false
theorem nat_neq5 {n m : Nat} (h : n ≠ m) : ((n : Int) == (m : Int)) = false := by
  rw [Bool.eq_false_iff]
  intro hh
  have := beq_iff_eq.1 hh
  omega
/-- The set at gs, its list in vL. -/
structure AdAt (w : World) (B gs : Nat) (L : List Nat) (vL : Value) : Prop where
  row : Row w gs 134 #[vL]
  li : w.ownsRow B 24 1 vL L.length (L.map wv)
theorem AdAt.ne {w : World} {B gs : Nat} {L : List Nat} {vL : Value} (h : AdAt w B gs L vL) : ∀ k, vL.ownBlock = some k → k ≠ gs := fun k hk e => by
  subst e
  rcases h.li.2 with ⟨rfl, _⟩ | ⟨g, cap, cur, rfl, hg, hh, _⟩
  · cases hk
  · cases hk
    have h1 : w.heap[g]? = some (Obj.cells _ 134 (0, 0)) := h.row
    rw [hh] at h1
    injection h1 with h1
    injection h1 with _ h1 _
    exact absurd h1 (by decide)
theorem AdAt.keep {w w' : World} {B gs : Nat} {L : List Nat} {vL : Value} {fp : Nat → Prop} (h : AdAt w B gs L vL) (hb : But w w' fp) (h1 : ¬ fp gs) (h2 : ∀ k, vL.ownBlock = some k → ¬ fp k) : AdAt w' B gs L vL := by
  refine ⟨hb.row h.row h1, h.li.1, ?_⟩
  rcases h.li.2 with h0 | ⟨g, cap, cur, rfl, hg, hh, hr⟩
  · exact .inl h0
  · exact .inr ⟨g, cap, cur, rfl, hg, (hb.block g (Array.getElem?_eq_some_iff.1 hh).1 (h2 g rfl)).trans hh, hr⟩
theorem AdAt.below {w w' : World} {B gs : Nat} {L : List Nat} {vL : Value} (h : AdAt w B gs L vL) (hb : Below w.heap.size w w') : AdAt w' B gs L vL := h.keep (But.of_below hb (fun _ => False)) (fun h => h) (fun _ _ h => h)
theorem AdAt.lt {w : World} {B gs : Nat} {L : List Nat} {vL : Value} (h : AdAt w B gs L vL) : gs < w.heap.size ∧ ∀ k, vL.ownBlock = some k → k < w.heap.size := by
  refine ⟨h.row.lt, fun k hk => ?_⟩
  rcases h.li.2 with ⟨rfl, _⟩ | ⟨g, cap, cur, rfl, hg, hh, _⟩
  · cases hk
  · cases hk
    exact (Array.getElem?_eq_some_iff.1 hh).1
theorem AdAt.cell {w : World} {B gs : Nat} {L : List Nat} {A : Option Addr} {n c : Nat} (h : AdAt w B gs L (.slice A n c)) {j : Nat} (hj : j < L.length) : ∃ g, A = some ⟨g, 0, none⟩ ∧ w.cell? ⟨g, j, none⟩ = some (wv (gd L j)) := by
  have h1 : (L.map wv)[j]? = some (wv (gd L j)) := by rw [List.getElem?_map, List.getElem?_eq_getElem hj]; simp [gd, hj]
  rcases h.li.2 with ⟨e1, e2⟩ | ⟨g, cap, cur, e1, _⟩
  · omega
  · have e2 : A = some ⟨g, 0, none⟩ := by injection e1
    have h2 := h.li.cells (g := g) (by rw [e2]; rfl) j _ h1
    rw [Addr.add_lit, Nat.zero_add] at h2
    exact ⟨g, e2, h2⟩
theorem AdAt.sl {w : World} {B gs : Nat} {L : List Nat} {vL : Value} (h : AdAt w B gs L vL) : ∃ A c, vL = .slice A L.length c := by
  rcases h.li.2 with ⟨rfl, h0⟩ | ⟨g, cap, cur, rfl, _⟩
  · exact ⟨none, 0, by rw [h0]⟩
  · exact ⟨_, _, rfl⟩
theorem AdAt.c0 {w : World} {B gs : Nat} {L : List Nat} {vL : Value} (h : AdAt w B gs L vL) : w.cell? ⟨gs, 0, none⟩ = some vL := by
  have := h.row.cell 0
  simpa using this
/-- What a call leaves of it. -/
def AdLeft (w : World) (B gs : Nat) (L : List Nat) (w' : World) : Prop := ∃ vL', AdAt w' B gs L vL' ∧ (∀ k, vL'.ownBlock = some k → w.heap.size ≤ k) ∧ But w w' (fun k => k = gs)
/-- A new list is stored. -/
theorem ad_store {w wd : World} {B B' gs : Nat} {L L' : List Nat} {vL vd : Value} {n : Nat} {xs : List Value} (h : AdAt w B gs L vL) (hb : Below w.heap.size w wd) (ho : wd.ownsRow B' 24 1 vd n xs) (hn : n = L'.length) (hx : xs = L'.map wv) (hB : B ≤ w.heap.size) (hB' : w.heap.size ≤ B') :
    AdLeft w B gs L' (wd.setCell ⟨gs, 0, none⟩ vd) := by
  subst hn hx
  have hr := h.row.below hb h.row.lt
  have hlt := h.row.lt
  have hne : ∀ k, vd.ownBlock = some k → w.heap.size ≤ k := fun k hk => Nat.le_trans hB' (own_fromA ho k hk).1
  refine ⟨vd, ⟨by have := hr.set 0 vd; simpa using this, ho.1, ?_⟩, hne, But.set (fp := fun k => k = gs) (But.of_below hb (fun k => k = gs)) rfl vd⟩
  rcases ho.2 with h0 | ⟨g, cap, cur, rfl, hg, hh, hr2⟩
  · exact .inl h0
  · have : g ≠ gs := by have := hne g rfl; omega
    exact .inr ⟨g, cap, cur, rfl, by omega, (heap_setCell_other _ _ _ _ this).trans hh, hr2⟩
set_option maxRecDepth 100000 in
set_option maxHeartbeats 1600000 in
theorem aHas_any {w : World} {B gs : Nat} {L : List Nat} {vL : Value} (h : AdAt w B gs L vL) (hL : L.length ≤ 1000) (a : Nat) :
    Calls Tryz.prog 92 #[.pointer (some ⟨gs, 0, none⟩), wv a] w fun e w' => e = .returned (.bool (decide (a ∈ L))) ∧ w = w' := by
  obtain ⟨A, c, rfl⟩ := h.sl
  have c0 := h.c0
  have HH := Lib.hid h
  obtain ⟨n, hn⟩ : ∃ n, n = L.length := ⟨_, rfl⟩
  have HN := Lib.hid hn
  rw [← hn] at c0 hL
  unfold wv
  clear h hn
  go_enter Tryz.func92, Tryz.ntmps92
  go_wp2
  go_loopw [5] (fun v wr => ∃ i : Nat, v = .int .i64 (i : Int) ∧ i ≤ n ∧ a ∉ L.take i ∧ w = wr) (fun v _ => n - (intOf v).toNat)
  case atStart => exact ⟨0, rfl, Nat.zero_le _, by simp, rfl⟩
  case round =>
    obtain ⟨i, rfl, hi, hno, rfl⟩ := hrel
    have HNO := Lib.hid hno
    clear hno
    by_cases hlt : i < n
    · have hil : i < L.length := by rw [← HN.out]; exact hlt
      obtain ⟨g, rfl, ci⟩ := HH.out.cell hil
      have hiI : (i : Int) < (n : Int) := by omega
      by_cases he : gd L i = a
      · have HE := Lib.hid (show decide (a ∈ L) = true from decide_eq_true (by rw [← he]; simp [gd, hil]))
        rw [he] at ci
        unfold wv at ci
        have hq : ((a : Int) == (a : Int)) = true := by simp
        clear he hil
        go_wp2
        go_ret
        exact ⟨by rw [HE.out]; rfl, rfl⟩
      · have HE := Lib.hid (show a ∉ L.take (i + 1) from by
          have hg : gd L i = L[i] := by simp [gd, hil]
          rw [hg] at he
          rw [List.take_succ_eq_append_getElem hil, List.mem_append, List.mem_singleton]
          rintro (h | h)
          · exact HNO.out h
          · exact he h.symm)
        obtain ⟨x, hx⟩ : ∃ x, x = gd L i := ⟨_, rfl⟩
        rw [← hx] at ci he
        unfold wv at ci
        have hq := nat_neq5 he
        clear he hil hx
        go_wp2
        exact ⟨⟨i + 1, by go_num, by omega, HE.out, trivial⟩, by simp [intOf]; omega⟩
    · obtain rfl : i = n := by omega
      have hii : decide ((i : Int) < (i : Int)) = false := by simp
      have HE := Lib.hid (show decide (a ∈ L) = false from decide_eq_false (by have := HNO.out; rwa [HN.out, List.take_length] at this))
      go_wp2
      go_ret
      exact ⟨by rw [HE.out]; rfl, rfl⟩
set_option maxRecDepth 100000 in
set_option maxHeartbeats 3200000 in
theorem aPut_new {w : World} {B gs : Nat} {L : List Nat} {vL : Value} (h : AdAt w B gs L vL) (hL : L.length ≤ 1000) (hB : B ≤ w.heap.size) {a : Nat} (h0 : a ≠ 0) (ha : a ∉ L) :
    Calls Tryz.prog 67 #[.pointer (some ⟨gs, 0, none⟩), wv a] w fun e w' => e = .returned (.int .i64 0) ∧ AdLeft w B gs (insN L a) w' := by
  have mixed : Tryz.prog.follows .mixedOrders = true := by kernel_rfl
  have HHas := aHas_any h hL a
  rw [decide_eq_false ha] at HHas
  have HHas := Lib.hid HHas
  have hz : ((a : Int) == 0) = false := by rw [Bool.eq_false_iff]; intro h; have := beq_iff_eq.1 h; omega
  obtain ⟨A, c, rfl⟩ := h.sl
  have c0 := h.c0
  have HH := Lib.hid h
  have HB := Lib.hid hB
  obtain ⟨n, hn⟩ : ∃ n, n = L.length := ⟨_, rfl⟩
  have HN := Lib.hid hn
  rw [← hn] at c0 hL
  unfold wv at HHas ⊢
  clear h hn ha h0 hB
  go_enter Tryz.func67, Tryz.ntmps67
  go_wp2_with fail
  refine HHas.out.mono ?_
  rintro e w1 ⟨rfl, rfl⟩
  go_wp2
  go_loopw [5] (fun v wr => ∃ j : Nat, v = .int .i64 (j : Int) ∧ j ≤ n ∧ (∀ t, t < j → L.getD t 0 < a) ∧ w = wr) (fun v _ => n - (intOf v).toNat)
  case atStart => exact ⟨0, rfl, Nat.zero_le _, fun t ht => by omega, rfl⟩
  case round =>
    obtain ⟨j, rfl, hj, hbf, rfl⟩ := hrel
    have HBF := Lib.hid hbf
    clear hbf
    have tail : (j = n ∨ ¬ L.getD j 0 < a) → insN L a = L.take j ++ [a] ++ L.drop j := fun h2 => insN_at (by rw [← HN.out]; exact hj) HBF.out (h2.imp (fun e => by rw [e, HN.out]) id)
    by_cases hlt : j < n
    · have hjl : j < L.length := by rw [← HN.out]; exact hlt
      obtain ⟨g, hgA, cj⟩ := HH.out.cell hjl
      have hjI : (j : Int) < (n : Int) := by omega
      have hgd : gd L j = L.getD j 0 := by simp [gd, hjl]
      obtain ⟨x, hx⟩ : ∃ x, x = gd L j := ⟨_, rfl⟩
      rw [← hx] at cj hgd
      unfold wv at cj
      by_cases hxa : x < a
      · have hxd : decide ((x : Int) < (a : Int)) = true := by simp; omega
        have hxI : (x : Int) < (a : Int) := by omega
        have HBF2 := Lib.hid (show ∀ t, t < j + 1 → L.getD t 0 < a from fun t ht => by
          by_cases e : t = j
          · rw [e, ← hgd]; exact hxa
          · exact HBF.out t (by omega))
        subst hgA
        clear tail hgd hx hjl
        go_wp2
        exact ⟨⟨j + 1, by go_num, by omega, HBF2.out, trivial⟩, by simp [intOf]; omega⟩
      · have hxd : decide ((x : Int) < (a : Int)) = false := by simp; omega
        have hxI : ¬ (x : Int) < (a : Int) := by omega
        have HT := Lib.hid (tail (.inr (by rw [← hgd]; exact hxa)))
        subst hgA
        clear tail hgd hx hjl
        go_upto_region 8 with (fail)
        obtain ⟨AY, mY, cY, AX, mX, cX, sY, sX, hcut⟩ := own_cut HH.out.li (j := j) (by rw [← HN.out]; exact hj)
        have HCUT := Lib.hid (fun W (hb : Below w.heap.size w W) => hcut W hb)
        have HYL := Lib.hid (show ((L.map wv).take j).length = j by have := HN.out; simp; omega)
        have HXL := Lib.hid (show ((L.map wv).drop j).length = n - j by rw [List.length_drop, List.length_map, ← HN.out])
        have HY1 := Lib.hid (fun u (hu : u ∈ (L.map wv).take j) => wv_one L u (List.mem_of_mem_take hu))
        have HX1 := Lib.hid (fun u (hu : u ∈ (L.map wv).drop j) => wv_one L u (List.mem_of_mem_drop hu))
        have STAY := Lib.hid fun W' (hb : Below w.heap.size w W') => And.intro ((hb.cell (p := ⟨gs, 0, none⟩) (w.block_lt_of_cell? _ c0)).trans c0) hb
        have HLEN := Lib.hid (show n + 1 = (insN L a).length by rw [insN_len, HN.out])
        have HEND := Lib.hid (show (L.map wv).take j ++ [wv a] ++ (L.map wv).drop j = (insN L a).map wv by rw [HT.out]; simp)
        obtain ⟨ys, hys⟩ : ∃ ys, ys = (L.map wv).take j := ⟨_, rfl⟩
        obtain ⟨zs, hzs⟩ : ∃ zs, zs = (L.map wv).drop j := ⟨_, rfl⟩
        rw [← hys] at HCUT HYL HY1 HEND
        rw [← hzs] at HCUT HXL HX1 HEND
        rw [← HN.out] at sY sX
        clear hcut hys hzs
        refine wp_region_noPanic ?_
        refine wp_region_heldx_drew (S := fun W' => W'.cell? ⟨gs, 0, none⟩ = some (.slice (some ⟨g, 0, none⟩) n c) ∧ Below w.heap.size w W') 20 (by kernel_rfl) (STAY.out _ (drew_below _)) (fun hHeld => ?_)
        have L0 : Below w.heap.size w w.drew := drew_below _
        refine wpAnyX_take (i := 0) (oi := ⟨some 31, _, _, _, _, _⟩) (v := .pointer (some ⟨gs, 0, none⟩)) rfl (by kernel_rfl) (by kernel_rfl) (by kernel_rfl) (by kernel_rfl) (fun _ _ _ h => h) (Or.inl ⟨by kernel_rfl, by intro WW hSw; (try dsimp only at hSw); obtain ⟨hS1, hS2⟩ := hSw; go_simp⟩) (by assumption) ?_
        (try simp only [Act.put, List.setIfInBounds_toArray, List.set_cons_zero, List.set_cons_succ])
        refine wpAnyX_take (i := 1) (oi := ⟨some 32, _, _, _, _, _⟩) (v := .pointer (some ⟨gs, 0, none⟩)) rfl (by kernel_rfl) (by kernel_rfl) (by kernel_rfl) (by kernel_rfl) (fun _ _ _ h => h) (Or.inl ⟨by kernel_rfl, by intro WW hSw; (try dsimp only at hSw); obtain ⟨hS1, hS2⟩ := hSw; go_simp⟩) (by assumption) ?_
        (try simp only [Act.put, List.setIfInBounds_toArray, List.set_cons_zero, List.set_cons_succ])
        refine wpAnyX_take (i := 2) (oi := ⟨some 33, _, _, _, _, _⟩) (v := .pointer (some ⟨gs, 0, none⟩)) rfl (by kernel_rfl) (by kernel_rfl) (by kernel_rfl) (by kernel_rfl) (fun _ _ _ h => h) (Or.inl ⟨by kernel_rfl, by intro WW hSw; (try dsimp only at hSw); obtain ⟨hS1, hS2⟩ := hSw; go_simp⟩) (by assumption) ?_
        (try simp only [Act.put, List.setIfInBounds_toArray, List.set_cons_zero, List.set_cons_succ])
        refine wpAnyX_take (i := 3) (oi := ⟨some 34, _, _, _, _, _⟩) (v := .pointer (some ⟨gs, 0, none⟩)) rfl (by kernel_rfl) (by kernel_rfl) (by kernel_rfl) (by kernel_rfl) (fun _ _ _ h => h) (Or.inl ⟨by kernel_rfl, by intro WW hSw; (try dsimp only at hSw); obtain ⟨hS1, hS2⟩ := hSw; go_simp⟩) (by assumption) ?_
        (try simp only [Act.put, List.setIfInBounds_toArray, List.set_cons_zero, List.set_cons_succ])
        refine wpAnyX_take (i := 4) (oi := ⟨some 35, _, _, _, _, _⟩) (v := .slice (some ⟨g, 0, none⟩) n c) rfl (by kernel_rfl) (by kernel_rfl) (by kernel_rfl) (by kernel_rfl) (fun _ _ _ h => h) (Or.inl ⟨by kernel_rfl, by intro WW hSw; (try dsimp only at hSw); obtain ⟨hS1, hS2⟩ := hSw; go_simp⟩) (by assumption) ?_
        (try simp only [Act.put, List.setIfInBounds_toArray, List.set_cons_zero, List.set_cons_succ])
        refine wpAnyX_take (i := 5) (oi := ⟨some 36, _, _, _, _, _⟩) (v := .int .i64 (j : Int)) rfl (by kernel_rfl) (by kernel_rfl) (by kernel_rfl) (by kernel_rfl) (fun _ _ _ h => h) (Or.inl ⟨by kernel_rfl, by intro WW hSw; (try dsimp only at hSw); obtain ⟨hS1, hS2⟩ := hSw; go_simp⟩) (by assumption) ?_
        (try simp only [Act.put, List.setIfInBounds_toArray, List.set_cons_zero, List.set_cons_succ])
        refine wpAnyX_take (i := 6) (oi := ⟨some 37, _, _, _, _, _⟩) (v := .slice AY mY cY) rfl (by kernel_rfl) (by kernel_rfl) (by kernel_rfl) (by kernel_rfl) (fun _ _ _ h => h) (Or.inl ⟨by kernel_rfl, by intro WW hSw; (try dsimp only at hSw); obtain ⟨hS1, hS2⟩ := hSw; go_simp⟩) (by assumption) ?_
        (try simp only [Act.put, List.setIfInBounds_toArray, List.set_cons_zero, List.set_cons_succ])
        refine wpAnyX_take (i := 8) (oi := ⟨some 39, _, _, _, _, _⟩) (v := .int .u64 (a : Int)) rfl (by kernel_rfl) (by kernel_rfl) (by kernel_rfl) (by kernel_rfl) (fun _ _ _ h => h) (Or.inl ⟨by kernel_rfl, by intro WW hSw; (try dsimp only at hSw); obtain ⟨hS1, hS2⟩ := hSw; go_simp⟩) (by assumption) ?_
        (try simp only [Act.put, List.setIfInBounds_toArray, List.set_cons_zero, List.set_cons_succ])
        refine wpAnyX_take (i := 11) (oi := ⟨some 42, _, _, _, _, _⟩) (v := .pointer (some ⟨gs, 0, none⟩)) rfl (by kernel_rfl) (by kernel_rfl) (by kernel_rfl) (by kernel_rfl) (fun _ _ _ h => h) (Or.inl ⟨by kernel_rfl, by intro WW hSw; (try dsimp only at hSw); obtain ⟨hS1, hS2⟩ := hSw; go_simp⟩) (by assumption) ?_
        (try simp only [Act.put, List.setIfInBounds_toArray, List.set_cons_zero, List.set_cons_succ])
        refine wpAnyX_take (i := 12) (oi := ⟨some 43, _, _, _, _, _⟩) (v := .pointer (some ⟨gs, 0, none⟩)) rfl (by kernel_rfl) (by kernel_rfl) (by kernel_rfl) (by kernel_rfl) (fun _ _ _ h => h) (Or.inl ⟨by kernel_rfl, by intro WW hSw; (try dsimp only at hSw); obtain ⟨hS1, hS2⟩ := hSw; go_simp⟩) (by assumption) ?_
        (try simp only [Act.put, List.setIfInBounds_toArray, List.set_cons_zero, List.set_cons_succ])
        refine wpAnyX_take (i := 13) (oi := ⟨some 44, _, _, _, _, _⟩) (v := .pointer (some ⟨gs, 0, none⟩)) rfl (by kernel_rfl) (by kernel_rfl) (by kernel_rfl) (by kernel_rfl) (fun _ _ _ h => h) (Or.inl ⟨by kernel_rfl, by intro WW hSw; (try dsimp only at hSw); obtain ⟨hS1, hS2⟩ := hSw; go_simp⟩) (by assumption) ?_
        (try simp only [Act.put, List.setIfInBounds_toArray, List.set_cons_zero, List.set_cons_succ])
        refine wpAnyX_take (i := 14) (oi := ⟨some 45, _, _, _, _, _⟩) (v := .slice (some ⟨g, 0, none⟩) n c) rfl (by kernel_rfl) (by kernel_rfl) (by kernel_rfl) (by kernel_rfl) (fun _ _ _ h => h) (Or.inl ⟨by kernel_rfl, by intro WW hSw; (try dsimp only at hSw); obtain ⟨hS1, hS2⟩ := hSw; go_simp⟩) (by assumption) ?_
        (try simp only [Act.put, List.setIfInBounds_toArray, List.set_cons_zero, List.set_cons_succ])
        refine wpAnyX_take (i := 15) (oi := ⟨some 46, _, _, _, _, _⟩) (v := .int .i64 (j : Int)) rfl (by kernel_rfl) (by kernel_rfl) (by kernel_rfl) (by kernel_rfl) (fun _ _ _ h => h) (Or.inl ⟨by kernel_rfl, by intro WW hSw; (try dsimp only at hSw); obtain ⟨hS1, hS2⟩ := hSw; go_simp⟩) (by assumption) ?_
        (try simp only [Act.put, List.setIfInBounds_toArray, List.set_cons_zero, List.set_cons_succ])
        refine wpAnyX_take (i := 16) (oi := ⟨some 47, _, _, _, _, _⟩) (v := .slice AX mX cX) rfl (by kernel_rfl) (by kernel_rfl) (by kernel_rfl) (by kernel_rfl) (fun _ _ _ h => h) (Or.inl ⟨by kernel_rfl, by intro WW hSw; (try dsimp only at hSw); obtain ⟨hS1, hS2⟩ := hSw; go_simp⟩) (by assumption) ?_
        (try simp only [Act.put, List.setIfInBounds_toArray, List.set_cons_zero, List.set_cons_succ])
        refine wpAnyX_ready (rs := [7, 9]) (by kernel_rfl) (by simp) ?_
        refine AllReadyX.cons (o := ⟨some 38, _, _, _, _, _⟩) rfl (fun K hK => ?_) (AllReadyX.cons (o := ⟨some 40, _, _, _, _, _⟩) rfl (fun K hK => ?_) AllReadyX.nil)
        · skip
          refine step_appA (by rfl) (.const (.slice none 0 0)) (.tmp 37) (by rfl) w.heap.size _ _ _ (by rfl) (World.ownsRow_nil _ _ _ _) _ _ (by rfl) ((HCUT.out _ L0).1) (HY1.out) (by have hyl := HYL.out; have hxl := HXL.out; first | omega | (simp; omega)) (L0.size) ?_
          intro va wa oa ga
          have La : Below w.heap.size w wa := L0.grown ga L0.size (fun q hq => by cases hq)
          refine hK.out _ _ (STAY.out _ La) (fun hHeld => ?_)
          clear hK K
          (try simp only [Act.put, List.setIfInBounds_toArray, List.set_cons_zero, List.set_cons_succ])
          refine wpAnyX_ready (rs := [9]) (by kernel_rfl) (by simp) ?_
          refine AllReadyX.cons (o := ⟨some 40, _, _, _, _, _⟩) rfl (fun K hK => ?_) AllReadyX.nil
          go_simp
          obtain ⟨wb, hwb⟩ : ∃ wb, wb = wa.alloc (.cells #[.int .u64 (a : Int)] 24) := ⟨_, rfl⟩
          have rb : Row wb wa.heap.size 24 #[.int .u64 (a : Int)] := by rw [hwb]; exact Row.new wa _ _
          have Lb : Below w.heap.size w wb := by rw [hwb]; exact Below.and La (alloc_below _ (.cells #[.int .u64 (a : Int)] 24))
          rw [← hwb]
          refine hK.out _ _ (STAY.out _ Lb) (fun hHeld => ?_)
          clear hK K
          (try simp only [Act.put, List.setIfInBounds_toArray, List.set_cons_zero, List.set_cons_succ])
          refine wpAnyX_ready (rs := [10]) (by kernel_rfl) (by simp) ?_
          refine AllReadyX.cons (o := ⟨some 41, _, _, _, _, _⟩) rfl (fun K hK => ?_) AllReadyX.nil
          refine step_appA (by rfl) (.tmp 38) (.tmp 40) (by rfl) w.heap.size _ _ _ (by rfl) (own_lowA oa (by rw [hwb]; exact alloc_below _ _)) _ _ (by rfl) ((.inr ⟨⟨wa.heap.size, 0, none⟩, 1, rfl, fun q u hu => by rw [Addr.add_lit, Nat.zero_add, Row.cell rb]; simpa using hu⟩ : RdsA _ _ [.int .u64 (a : Int)])) (by intro u hu; simp at hu; subst hu; rfl) (by have hyl := HYL.out; have hxl := HXL.out; first | omega | (simp; omega)) (Lb.size) ?_
          intro vc wc oc gc
          have Lc : Below w.heap.size w wc := Lb.grown gc Lb.size (fun q hq => (own_fromA oa q hq).1)
          refine hK.out _ _ (STAY.out _ Lc) (fun hHeld => ?_)
          clear hK K
          (try simp only [Act.put, List.setIfInBounds_toArray, List.set_cons_zero, List.set_cons_succ])
          refine wpAnyX_ready (rs := [17]) (by kernel_rfl) (by simp) ?_
          refine AllReadyX.cons (o := ⟨some 48, _, _, _, _, _⟩) rfl (fun K hK => ?_) AllReadyX.nil
          refine step_appA (by rfl) (.tmp 41) (.tmp 47) (by rfl) w.heap.size _ _ _ (by rfl) (oc) _ _ (by rfl) ((HCUT.out _ Lc).2) (HX1.out) (by have hyl := HYL.out; have hxl := HXL.out; first | omega | (simp; omega)) (Lc.size) ?_
          intro vd wd od gd
          have Ld : Below w.heap.size w wd := Lc.grown gd Lc.size (fun q hq => (own_fromA oc q hq).1)
          refine hK.out _ _ (STAY.out _ Ld) (fun hHeld => ?_)
          clear hK K
          (try simp only [Act.put, List.setIfInBounds_toArray, List.set_cons_zero, List.set_cons_succ])
          refine wpAnyX_ready (rs := [18]) (by kernel_rfl) (by simp) ?_
          refine AllReadyX.cons (o := ⟨some 49, _, _, _, _, _⟩) rfl (fun K hK => ?_) AllReadyX.nil
          go_simp
          refine hK.out _ _ (STAY.out _ Ld) (fun hHeld => ?_)
          clear hK K
          (try simp only [Act.put, List.setIfInBounds_toArray, List.set_cons_zero, List.set_cons_succ])
          refine wpAnyX_ready (rs := [19]) (by kernel_rfl) (by simp) ?_
          refine AllReadyX.cons (o := ⟨some 50, _, _, _, _, _⟩) rfl (fun K hK => ?_) AllReadyX.nil
          go_simp
          refine hK.out _ _ (STAY.out _ Ld) (fun hHeld => ?_)
          clear hK K
          (try simp only [Act.put, List.setIfInBounds_toArray, List.set_cons_zero, List.set_cons_succ])
          have HS := Lib.hid (ad_store (L' := insN L a) HH.out Ld od (by have hyl := HYL.out; have hxl := HXL.out; rw [← HLEN.out]; simp; omega) (by rw [← HEND.out]; simp [wv]) HB.out (Nat.le_refl _))
          have cd : wd.cell? ⟨gs, 0, none⟩ = some (.slice (some ⟨g, 0, none⟩) n c) := (STAY.out _ Ld).1
          have fd : wd.frozen? ⟨gs, 0, none⟩ = false := (HH.out.row.below Ld HH.out.row.lt).free 0
          obtain ⟨Ad, cd2, nd, rfl⟩ : ∃ Ad cd2 nd, vd = .slice Ad nd cd2 := by
            rcases od.2 with ⟨rfl, h0⟩ | ⟨g, cap, cur, rfl, _⟩
            · exact ⟨none, 0, 0, rfl⟩
            · exact ⟨_, _, _, rfl⟩
          clear od
          refine wpAnyX_ready (rs := [20]) (by kernel_rfl) (by simp) ?_
          refine AllReadyX.last rfl (fun K hK => ?_)
          go_simp
          refine hK.out _ _ ?_
          clear hK K
          (try simp only [Act.put, List.setIfInBounds_toArray, List.set_cons_zero, List.set_cons_succ])
          refine wpAnyX_done (by kernel_rfl) ?_ _
          go_wp2_with fail
          refine (‹∀ (a : Act) (w : World), Code.wp Tryz.prog _ _ a w → _›) _ _ ?_
          go_wp2_with fail
          go_ret
          exact ⟨rfl, HS.out⟩
        · skip
          go_simp
          obtain ⟨wb, hwb⟩ : ∃ wb, wb = (w.alloc (.cells #[.int .u64 (a : Int)] 24)).drew := ⟨_, rfl⟩
          have rb : Row wb w.heap.size 24 #[.int .u64 (a : Int)] := by rw [hwb]; exact Row.new w _ _
          have Lb : Below w.heap.size w wb := by rw [hwb]; exact Below.and L0 (alloc_below _ (.cells #[.int .u64 (a : Int)] 24))
          rw [← hwb]
          refine hK.out _ _ (STAY.out _ Lb) (fun hHeld => ?_)
          clear hK K
          (try simp only [Act.put, List.setIfInBounds_toArray, List.set_cons_zero, List.set_cons_succ])
          refine wpAnyX_ready (rs := [7]) (by kernel_rfl) (by simp) ?_
          refine AllReadyX.cons (o := ⟨some 38, _, _, _, _, _⟩) rfl (fun K hK => ?_) AllReadyX.nil
          refine step_appA (by rfl) (.const (.slice none 0 0)) (.tmp 37) (by rfl) w.heap.size _ _ _ (by rfl) (World.ownsRow_nil _ _ _ _) _ _ (by rfl) ((HCUT.out _ Lb).1) (HY1.out) (by have hyl := HYL.out; have hxl := HXL.out; first | omega | (simp; omega)) (Lb.size) ?_
          intro va wa oa ga
          have La : Below w.heap.size w wa := Lb.grown ga Lb.size (fun q hq => by cases hq)
          refine hK.out _ _ (STAY.out _ La) (fun hHeld => ?_)
          clear hK K
          (try simp only [Act.put, List.setIfInBounds_toArray, List.set_cons_zero, List.set_cons_succ])
          have ra : Row wa w.heap.size 24 #[.int .u64 (a : Int)] := rb.grown ga (by intro e; cases e)
          refine wpAnyX_ready (rs := [10]) (by kernel_rfl) (by simp) ?_
          refine AllReadyX.cons (o := ⟨some 41, _, _, _, _, _⟩) rfl (fun K hK => ?_) AllReadyX.nil
          refine step_appA (by rfl) (.tmp 38) (.tmp 40) (by rfl) w.heap.size _ _ _ (by rfl) (oa) _ _ (by rfl) ((.inr ⟨⟨w.heap.size, 0, none⟩, 1, rfl, fun q u hu => by rw [Addr.add_lit, Nat.zero_add, Row.cell ra]; simpa using hu⟩ : RdsA _ _ [.int .u64 (a : Int)])) (by intro u hu; simp at hu; subst hu; rfl) (by have hyl := HYL.out; have hxl := HXL.out; first | omega | (simp; omega)) (La.size) ?_
          intro vc wc oc gc
          have Lc : Below w.heap.size w wc := La.grown gc La.size (fun q hq => (own_fromA oa q hq).1)
          refine hK.out _ _ (STAY.out _ Lc) (fun hHeld => ?_)
          clear hK K
          (try simp only [Act.put, List.setIfInBounds_toArray, List.set_cons_zero, List.set_cons_succ])
          refine wpAnyX_ready (rs := [17]) (by kernel_rfl) (by simp) ?_
          refine AllReadyX.cons (o := ⟨some 48, _, _, _, _, _⟩) rfl (fun K hK => ?_) AllReadyX.nil
          refine step_appA (by rfl) (.tmp 41) (.tmp 47) (by rfl) w.heap.size _ _ _ (by rfl) (oc) _ _ (by rfl) ((HCUT.out _ Lc).2) (HX1.out) (by have hyl := HYL.out; have hxl := HXL.out; first | omega | (simp; omega)) (Lc.size) ?_
          intro vd wd od gd
          have Ld : Below w.heap.size w wd := Lc.grown gd Lc.size (fun q hq => (own_fromA oc q hq).1)
          refine hK.out _ _ (STAY.out _ Ld) (fun hHeld => ?_)
          clear hK K
          (try simp only [Act.put, List.setIfInBounds_toArray, List.set_cons_zero, List.set_cons_succ])
          refine wpAnyX_ready (rs := [18]) (by kernel_rfl) (by simp) ?_
          refine AllReadyX.cons (o := ⟨some 49, _, _, _, _, _⟩) rfl (fun K hK => ?_) AllReadyX.nil
          go_simp
          refine hK.out _ _ (STAY.out _ Ld) (fun hHeld => ?_)
          clear hK K
          (try simp only [Act.put, List.setIfInBounds_toArray, List.set_cons_zero, List.set_cons_succ])
          refine wpAnyX_ready (rs := [19]) (by kernel_rfl) (by simp) ?_
          refine AllReadyX.cons (o := ⟨some 50, _, _, _, _, _⟩) rfl (fun K hK => ?_) AllReadyX.nil
          go_simp
          refine hK.out _ _ (STAY.out _ Ld) (fun hHeld => ?_)
          clear hK K
          (try simp only [Act.put, List.setIfInBounds_toArray, List.set_cons_zero, List.set_cons_succ])
          have HS := Lib.hid (ad_store (L' := insN L a) HH.out Ld od (by have hyl := HYL.out; have hxl := HXL.out; rw [← HLEN.out]; simp; omega) (by rw [← HEND.out]; simp [wv]) HB.out (Nat.le_refl _))
          have cd : wd.cell? ⟨gs, 0, none⟩ = some (.slice (some ⟨g, 0, none⟩) n c) := (STAY.out _ Ld).1
          have fd : wd.frozen? ⟨gs, 0, none⟩ = false := (HH.out.row.below Ld HH.out.row.lt).free 0
          obtain ⟨Ad, cd2, nd, rfl⟩ : ∃ Ad cd2 nd, vd = .slice Ad nd cd2 := by
            rcases od.2 with ⟨rfl, h0⟩ | ⟨g, cap, cur, rfl, _⟩
            · exact ⟨none, 0, 0, rfl⟩
            · exact ⟨_, _, _, rfl⟩
          clear od
          refine wpAnyX_ready (rs := [20]) (by kernel_rfl) (by simp) ?_
          refine AllReadyX.last rfl (fun K hK => ?_)
          go_simp
          refine hK.out _ _ ?_
          clear hK K
          (try simp only [Act.put, List.setIfInBounds_toArray, List.set_cons_zero, List.set_cons_succ])
          refine wpAnyX_done (by kernel_rfl) ?_ _
          go_wp2_with fail
          refine (‹∀ (a : Act) (w : World), Code.wp Tryz.prog _ _ a w → _›) _ _ ?_
          go_wp2_with fail
          go_ret
          exact ⟨rfl, HS.out⟩
    · obtain rfl : j = n := by omega
      have hjj : decide ((j : Int) < (j : Int)) = false := by simp
      have HT := Lib.hid (tail (.inl rfl))
      clear tail
      go_upto_region 8 with (fail)
      obtain ⟨AY, mY, cY, AX, mX, cX, sY, sX, hcut⟩ := own_cut HH.out.li (j := j) (by rw [← HN.out]; exact hj)
      have HCUT := Lib.hid (fun W (hb : Below w.heap.size w W) => hcut W hb)
      have HYL := Lib.hid (show ((L.map wv).take j).length = j by have := HN.out; simp; omega)
      have HXL := Lib.hid (show ((L.map wv).drop j).length = j - j by rw [List.length_drop, List.length_map, ← HN.out])
      have HY1 := Lib.hid (fun u (hu : u ∈ (L.map wv).take j) => wv_one L u (List.mem_of_mem_take hu))
      have HX1 := Lib.hid (fun u (hu : u ∈ (L.map wv).drop j) => wv_one L u (List.mem_of_mem_drop hu))
      have STAY := Lib.hid fun W' (hb : Below w.heap.size w W') => And.intro ((hb.cell (p := ⟨gs, 0, none⟩) (w.block_lt_of_cell? _ c0)).trans c0) hb
      have HLEN := Lib.hid (show j + 1 = (insN L a).length by rw [insN_len, HN.out])
      have HEND := Lib.hid (show (L.map wv).take j ++ [wv a] ++ (L.map wv).drop j = (insN L a).map wv by rw [HT.out]; simp)
      obtain ⟨ys, hys⟩ : ∃ ys, ys = (L.map wv).take j := ⟨_, rfl⟩
      obtain ⟨zs, hzs⟩ : ∃ zs, zs = (L.map wv).drop j := ⟨_, rfl⟩
      rw [← hys] at HCUT HYL HY1 HEND
      rw [← hzs] at HCUT HXL HX1 HEND
      rw [← HN.out] at sY sX
      clear hcut hys hzs
      refine wp_region_noPanic ?_
      refine wp_region_heldx_drew (S := fun W' => W'.cell? ⟨gs, 0, none⟩ = some (.slice A j c) ∧ Below w.heap.size w W') 20 (by kernel_rfl) (STAY.out _ (drew_below _)) (fun hHeld => ?_)
      have L0 : Below w.heap.size w w.drew := drew_below _
      refine wpAnyX_take (i := 0) (oi := ⟨some 31, _, _, _, _, _⟩) (v := .pointer (some ⟨gs, 0, none⟩)) rfl (by kernel_rfl) (by kernel_rfl) (by kernel_rfl) (by kernel_rfl) (fun _ _ _ h => h) (Or.inl ⟨by kernel_rfl, by intro WW hSw; (try dsimp only at hSw); obtain ⟨hS1, hS2⟩ := hSw; go_simp⟩) (by assumption) ?_
      (try simp only [Act.put, List.setIfInBounds_toArray, List.set_cons_zero, List.set_cons_succ])
      refine wpAnyX_take (i := 1) (oi := ⟨some 32, _, _, _, _, _⟩) (v := .pointer (some ⟨gs, 0, none⟩)) rfl (by kernel_rfl) (by kernel_rfl) (by kernel_rfl) (by kernel_rfl) (fun _ _ _ h => h) (Or.inl ⟨by kernel_rfl, by intro WW hSw; (try dsimp only at hSw); obtain ⟨hS1, hS2⟩ := hSw; go_simp⟩) (by assumption) ?_
      (try simp only [Act.put, List.setIfInBounds_toArray, List.set_cons_zero, List.set_cons_succ])
      refine wpAnyX_take (i := 2) (oi := ⟨some 33, _, _, _, _, _⟩) (v := .pointer (some ⟨gs, 0, none⟩)) rfl (by kernel_rfl) (by kernel_rfl) (by kernel_rfl) (by kernel_rfl) (fun _ _ _ h => h) (Or.inl ⟨by kernel_rfl, by intro WW hSw; (try dsimp only at hSw); obtain ⟨hS1, hS2⟩ := hSw; go_simp⟩) (by assumption) ?_
      (try simp only [Act.put, List.setIfInBounds_toArray, List.set_cons_zero, List.set_cons_succ])
      refine wpAnyX_take (i := 3) (oi := ⟨some 34, _, _, _, _, _⟩) (v := .pointer (some ⟨gs, 0, none⟩)) rfl (by kernel_rfl) (by kernel_rfl) (by kernel_rfl) (by kernel_rfl) (fun _ _ _ h => h) (Or.inl ⟨by kernel_rfl, by intro WW hSw; (try dsimp only at hSw); obtain ⟨hS1, hS2⟩ := hSw; go_simp⟩) (by assumption) ?_
      (try simp only [Act.put, List.setIfInBounds_toArray, List.set_cons_zero, List.set_cons_succ])
      refine wpAnyX_take (i := 4) (oi := ⟨some 35, _, _, _, _, _⟩) (v := .slice A j c) rfl (by kernel_rfl) (by kernel_rfl) (by kernel_rfl) (by kernel_rfl) (fun _ _ _ h => h) (Or.inl ⟨by kernel_rfl, by intro WW hSw; (try dsimp only at hSw); obtain ⟨hS1, hS2⟩ := hSw; go_simp⟩) (by assumption) ?_
      (try simp only [Act.put, List.setIfInBounds_toArray, List.set_cons_zero, List.set_cons_succ])
      refine wpAnyX_take (i := 5) (oi := ⟨some 36, _, _, _, _, _⟩) (v := .int .i64 (j : Int)) rfl (by kernel_rfl) (by kernel_rfl) (by kernel_rfl) (by kernel_rfl) (fun _ _ _ h => h) (Or.inl ⟨by kernel_rfl, by intro WW hSw; (try dsimp only at hSw); obtain ⟨hS1, hS2⟩ := hSw; go_simp⟩) (by assumption) ?_
      (try simp only [Act.put, List.setIfInBounds_toArray, List.set_cons_zero, List.set_cons_succ])
      refine wpAnyX_take (i := 6) (oi := ⟨some 37, _, _, _, _, _⟩) (v := .slice AY mY cY) rfl (by kernel_rfl) (by kernel_rfl) (by kernel_rfl) (by kernel_rfl) (fun _ _ _ h => h) (Or.inl ⟨by kernel_rfl, by intro WW hSw; (try dsimp only at hSw); obtain ⟨hS1, hS2⟩ := hSw; go_simp⟩) (by assumption) ?_
      (try simp only [Act.put, List.setIfInBounds_toArray, List.set_cons_zero, List.set_cons_succ])
      refine wpAnyX_take (i := 8) (oi := ⟨some 39, _, _, _, _, _⟩) (v := .int .u64 (a : Int)) rfl (by kernel_rfl) (by kernel_rfl) (by kernel_rfl) (by kernel_rfl) (fun _ _ _ h => h) (Or.inl ⟨by kernel_rfl, by intro WW hSw; (try dsimp only at hSw); obtain ⟨hS1, hS2⟩ := hSw; go_simp⟩) (by assumption) ?_
      (try simp only [Act.put, List.setIfInBounds_toArray, List.set_cons_zero, List.set_cons_succ])
      refine wpAnyX_take (i := 11) (oi := ⟨some 42, _, _, _, _, _⟩) (v := .pointer (some ⟨gs, 0, none⟩)) rfl (by kernel_rfl) (by kernel_rfl) (by kernel_rfl) (by kernel_rfl) (fun _ _ _ h => h) (Or.inl ⟨by kernel_rfl, by intro WW hSw; (try dsimp only at hSw); obtain ⟨hS1, hS2⟩ := hSw; go_simp⟩) (by assumption) ?_
      (try simp only [Act.put, List.setIfInBounds_toArray, List.set_cons_zero, List.set_cons_succ])
      refine wpAnyX_take (i := 12) (oi := ⟨some 43, _, _, _, _, _⟩) (v := .pointer (some ⟨gs, 0, none⟩)) rfl (by kernel_rfl) (by kernel_rfl) (by kernel_rfl) (by kernel_rfl) (fun _ _ _ h => h) (Or.inl ⟨by kernel_rfl, by intro WW hSw; (try dsimp only at hSw); obtain ⟨hS1, hS2⟩ := hSw; go_simp⟩) (by assumption) ?_
      (try simp only [Act.put, List.setIfInBounds_toArray, List.set_cons_zero, List.set_cons_succ])
      refine wpAnyX_take (i := 13) (oi := ⟨some 44, _, _, _, _, _⟩) (v := .pointer (some ⟨gs, 0, none⟩)) rfl (by kernel_rfl) (by kernel_rfl) (by kernel_rfl) (by kernel_rfl) (fun _ _ _ h => h) (Or.inl ⟨by kernel_rfl, by intro WW hSw; (try dsimp only at hSw); obtain ⟨hS1, hS2⟩ := hSw; go_simp⟩) (by assumption) ?_
      (try simp only [Act.put, List.setIfInBounds_toArray, List.set_cons_zero, List.set_cons_succ])
      refine wpAnyX_take (i := 14) (oi := ⟨some 45, _, _, _, _, _⟩) (v := .slice A j c) rfl (by kernel_rfl) (by kernel_rfl) (by kernel_rfl) (by kernel_rfl) (fun _ _ _ h => h) (Or.inl ⟨by kernel_rfl, by intro WW hSw; (try dsimp only at hSw); obtain ⟨hS1, hS2⟩ := hSw; go_simp⟩) (by assumption) ?_
      (try simp only [Act.put, List.setIfInBounds_toArray, List.set_cons_zero, List.set_cons_succ])
      refine wpAnyX_take (i := 15) (oi := ⟨some 46, _, _, _, _, _⟩) (v := .int .i64 (j : Int)) rfl (by kernel_rfl) (by kernel_rfl) (by kernel_rfl) (by kernel_rfl) (fun _ _ _ h => h) (Or.inl ⟨by kernel_rfl, by intro WW hSw; (try dsimp only at hSw); obtain ⟨hS1, hS2⟩ := hSw; go_simp⟩) (by assumption) ?_
      (try simp only [Act.put, List.setIfInBounds_toArray, List.set_cons_zero, List.set_cons_succ])
      refine wpAnyX_take (i := 16) (oi := ⟨some 47, _, _, _, _, _⟩) (v := .slice AX mX cX) rfl (by kernel_rfl) (by kernel_rfl) (by kernel_rfl) (by kernel_rfl) (fun _ _ _ h => h) (Or.inl ⟨by kernel_rfl, by intro WW hSw; (try dsimp only at hSw); obtain ⟨hS1, hS2⟩ := hSw; go_simp⟩) (by assumption) ?_
      (try simp only [Act.put, List.setIfInBounds_toArray, List.set_cons_zero, List.set_cons_succ])
      refine wpAnyX_ready (rs := [7, 9]) (by kernel_rfl) (by simp) ?_
      refine AllReadyX.cons (o := ⟨some 38, _, _, _, _, _⟩) rfl (fun K hK => ?_) (AllReadyX.cons (o := ⟨some 40, _, _, _, _, _⟩) rfl (fun K hK => ?_) AllReadyX.nil)
      · skip
        refine step_appA (by rfl) (.const (.slice none 0 0)) (.tmp 37) (by rfl) w.heap.size _ _ _ (by rfl) (World.ownsRow_nil _ _ _ _) _ _ (by rfl) ((HCUT.out _ L0).1) (HY1.out) (by have hyl := HYL.out; have hxl := HXL.out; first | omega | (simp; omega)) (L0.size) ?_
        intro va wa oa ga
        have La : Below w.heap.size w wa := L0.grown ga L0.size (fun q hq => by cases hq)
        refine hK.out _ _ (STAY.out _ La) (fun hHeld => ?_)
        clear hK K
        (try simp only [Act.put, List.setIfInBounds_toArray, List.set_cons_zero, List.set_cons_succ])
        refine wpAnyX_ready (rs := [9]) (by kernel_rfl) (by simp) ?_
        refine AllReadyX.cons (o := ⟨some 40, _, _, _, _, _⟩) rfl (fun K hK => ?_) AllReadyX.nil
        go_simp
        obtain ⟨wb, hwb⟩ : ∃ wb, wb = wa.alloc (.cells #[.int .u64 (a : Int)] 24) := ⟨_, rfl⟩
        have rb : Row wb wa.heap.size 24 #[.int .u64 (a : Int)] := by rw [hwb]; exact Row.new wa _ _
        have Lb : Below w.heap.size w wb := by rw [hwb]; exact Below.and La (alloc_below _ (.cells #[.int .u64 (a : Int)] 24))
        rw [← hwb]
        refine hK.out _ _ (STAY.out _ Lb) (fun hHeld => ?_)
        clear hK K
        (try simp only [Act.put, List.setIfInBounds_toArray, List.set_cons_zero, List.set_cons_succ])
        refine wpAnyX_ready (rs := [10]) (by kernel_rfl) (by simp) ?_
        refine AllReadyX.cons (o := ⟨some 41, _, _, _, _, _⟩) rfl (fun K hK => ?_) AllReadyX.nil
        refine step_appA (by rfl) (.tmp 38) (.tmp 40) (by rfl) w.heap.size _ _ _ (by rfl) (own_lowA oa (by rw [hwb]; exact alloc_below _ _)) _ _ (by rfl) ((.inr ⟨⟨wa.heap.size, 0, none⟩, 1, rfl, fun q u hu => by rw [Addr.add_lit, Nat.zero_add, Row.cell rb]; simpa using hu⟩ : RdsA _ _ [.int .u64 (a : Int)])) (by intro u hu; simp at hu; subst hu; rfl) (by have hyl := HYL.out; have hxl := HXL.out; first | omega | (simp; omega)) (Lb.size) ?_
        intro vc wc oc gc
        have Lc : Below w.heap.size w wc := Lb.grown gc Lb.size (fun q hq => (own_fromA oa q hq).1)
        refine hK.out _ _ (STAY.out _ Lc) (fun hHeld => ?_)
        clear hK K
        (try simp only [Act.put, List.setIfInBounds_toArray, List.set_cons_zero, List.set_cons_succ])
        refine wpAnyX_ready (rs := [17]) (by kernel_rfl) (by simp) ?_
        refine AllReadyX.cons (o := ⟨some 48, _, _, _, _, _⟩) rfl (fun K hK => ?_) AllReadyX.nil
        refine step_appA (by rfl) (.tmp 41) (.tmp 47) (by rfl) w.heap.size _ _ _ (by rfl) (oc) _ _ (by rfl) ((HCUT.out _ Lc).2) (HX1.out) (by have hyl := HYL.out; have hxl := HXL.out; first | omega | (simp; omega)) (Lc.size) ?_
        intro vd wd od gd
        have Ld : Below w.heap.size w wd := Lc.grown gd Lc.size (fun q hq => (own_fromA oc q hq).1)
        refine hK.out _ _ (STAY.out _ Ld) (fun hHeld => ?_)
        clear hK K
        (try simp only [Act.put, List.setIfInBounds_toArray, List.set_cons_zero, List.set_cons_succ])
        refine wpAnyX_ready (rs := [18]) (by kernel_rfl) (by simp) ?_
        refine AllReadyX.cons (o := ⟨some 49, _, _, _, _, _⟩) rfl (fun K hK => ?_) AllReadyX.nil
        go_simp
        refine hK.out _ _ (STAY.out _ Ld) (fun hHeld => ?_)
        clear hK K
        (try simp only [Act.put, List.setIfInBounds_toArray, List.set_cons_zero, List.set_cons_succ])
        refine wpAnyX_ready (rs := [19]) (by kernel_rfl) (by simp) ?_
        refine AllReadyX.cons (o := ⟨some 50, _, _, _, _, _⟩) rfl (fun K hK => ?_) AllReadyX.nil
        go_simp
        refine hK.out _ _ (STAY.out _ Ld) (fun hHeld => ?_)
        clear hK K
        (try simp only [Act.put, List.setIfInBounds_toArray, List.set_cons_zero, List.set_cons_succ])
        have HS := Lib.hid (ad_store (L' := insN L a) HH.out Ld od (by have hyl := HYL.out; have hxl := HXL.out; rw [← HLEN.out]; simp; omega) (by rw [← HEND.out]; simp [wv]) HB.out (Nat.le_refl _))
        have cd : wd.cell? ⟨gs, 0, none⟩ = some (.slice A j c) := (STAY.out _ Ld).1
        have fd : wd.frozen? ⟨gs, 0, none⟩ = false := (HH.out.row.below Ld HH.out.row.lt).free 0
        obtain ⟨Ad, cd2, nd, rfl⟩ : ∃ Ad cd2 nd, vd = .slice Ad nd cd2 := by
          rcases od.2 with ⟨rfl, h0⟩ | ⟨g, cap, cur, rfl, _⟩
          · exact ⟨none, 0, 0, rfl⟩
          · exact ⟨_, _, _, rfl⟩
        clear od
        refine wpAnyX_ready (rs := [20]) (by kernel_rfl) (by simp) ?_
        refine AllReadyX.last rfl (fun K hK => ?_)
        go_simp
        refine hK.out _ _ ?_
        clear hK K
        (try simp only [Act.put, List.setIfInBounds_toArray, List.set_cons_zero, List.set_cons_succ])
        refine wpAnyX_done (by kernel_rfl) ?_ _
        go_wp2_with fail
        refine (‹∀ (a : Act) (w : World), Code.wp Tryz.prog _ _ a w → _›) _ _ ?_
        go_wp2_with fail
        go_ret
        exact ⟨rfl, HS.out⟩
      · skip
        go_simp
        obtain ⟨wb, hwb⟩ : ∃ wb, wb = (w.alloc (.cells #[.int .u64 (a : Int)] 24)).drew := ⟨_, rfl⟩
        have rb : Row wb w.heap.size 24 #[.int .u64 (a : Int)] := by rw [hwb]; exact Row.new w _ _
        have Lb : Below w.heap.size w wb := by rw [hwb]; exact Below.and L0 (alloc_below _ (.cells #[.int .u64 (a : Int)] 24))
        rw [← hwb]
        refine hK.out _ _ (STAY.out _ Lb) (fun hHeld => ?_)
        clear hK K
        (try simp only [Act.put, List.setIfInBounds_toArray, List.set_cons_zero, List.set_cons_succ])
        refine wpAnyX_ready (rs := [7]) (by kernel_rfl) (by simp) ?_
        refine AllReadyX.cons (o := ⟨some 38, _, _, _, _, _⟩) rfl (fun K hK => ?_) AllReadyX.nil
        refine step_appA (by rfl) (.const (.slice none 0 0)) (.tmp 37) (by rfl) w.heap.size _ _ _ (by rfl) (World.ownsRow_nil _ _ _ _) _ _ (by rfl) ((HCUT.out _ Lb).1) (HY1.out) (by have hyl := HYL.out; have hxl := HXL.out; first | omega | (simp; omega)) (Lb.size) ?_
        intro va wa oa ga
        have La : Below w.heap.size w wa := Lb.grown ga Lb.size (fun q hq => by cases hq)
        refine hK.out _ _ (STAY.out _ La) (fun hHeld => ?_)
        clear hK K
        (try simp only [Act.put, List.setIfInBounds_toArray, List.set_cons_zero, List.set_cons_succ])
        have ra : Row wa w.heap.size 24 #[.int .u64 (a : Int)] := rb.grown ga (by intro e; cases e)
        refine wpAnyX_ready (rs := [10]) (by kernel_rfl) (by simp) ?_
        refine AllReadyX.cons (o := ⟨some 41, _, _, _, _, _⟩) rfl (fun K hK => ?_) AllReadyX.nil
        refine step_appA (by rfl) (.tmp 38) (.tmp 40) (by rfl) w.heap.size _ _ _ (by rfl) (oa) _ _ (by rfl) ((.inr ⟨⟨w.heap.size, 0, none⟩, 1, rfl, fun q u hu => by rw [Addr.add_lit, Nat.zero_add, Row.cell ra]; simpa using hu⟩ : RdsA _ _ [.int .u64 (a : Int)])) (by intro u hu; simp at hu; subst hu; rfl) (by have hyl := HYL.out; have hxl := HXL.out; first | omega | (simp; omega)) (La.size) ?_
        intro vc wc oc gc
        have Lc : Below w.heap.size w wc := La.grown gc La.size (fun q hq => (own_fromA oa q hq).1)
        refine hK.out _ _ (STAY.out _ Lc) (fun hHeld => ?_)
        clear hK K
        (try simp only [Act.put, List.setIfInBounds_toArray, List.set_cons_zero, List.set_cons_succ])
        refine wpAnyX_ready (rs := [17]) (by kernel_rfl) (by simp) ?_
        refine AllReadyX.cons (o := ⟨some 48, _, _, _, _, _⟩) rfl (fun K hK => ?_) AllReadyX.nil
        refine step_appA (by rfl) (.tmp 41) (.tmp 47) (by rfl) w.heap.size _ _ _ (by rfl) (oc) _ _ (by rfl) ((HCUT.out _ Lc).2) (HX1.out) (by have hyl := HYL.out; have hxl := HXL.out; first | omega | (simp; omega)) (Lc.size) ?_
        intro vd wd od gd
        have Ld : Below w.heap.size w wd := Lc.grown gd Lc.size (fun q hq => (own_fromA oc q hq).1)
        refine hK.out _ _ (STAY.out _ Ld) (fun hHeld => ?_)
        clear hK K
        (try simp only [Act.put, List.setIfInBounds_toArray, List.set_cons_zero, List.set_cons_succ])
        refine wpAnyX_ready (rs := [18]) (by kernel_rfl) (by simp) ?_
        refine AllReadyX.cons (o := ⟨some 49, _, _, _, _, _⟩) rfl (fun K hK => ?_) AllReadyX.nil
        go_simp
        refine hK.out _ _ (STAY.out _ Ld) (fun hHeld => ?_)
        clear hK K
        (try simp only [Act.put, List.setIfInBounds_toArray, List.set_cons_zero, List.set_cons_succ])
        refine wpAnyX_ready (rs := [19]) (by kernel_rfl) (by simp) ?_
        refine AllReadyX.cons (o := ⟨some 50, _, _, _, _, _⟩) rfl (fun K hK => ?_) AllReadyX.nil
        go_simp
        refine hK.out _ _ (STAY.out _ Ld) (fun hHeld => ?_)
        clear hK K
        (try simp only [Act.put, List.setIfInBounds_toArray, List.set_cons_zero, List.set_cons_succ])
        have HS := Lib.hid (ad_store (L' := insN L a) HH.out Ld od (by have hyl := HYL.out; have hxl := HXL.out; rw [← HLEN.out]; simp; omega) (by rw [← HEND.out]; simp [wv]) HB.out (Nat.le_refl _))
        have cd : wd.cell? ⟨gs, 0, none⟩ = some (.slice A j c) := (STAY.out _ Ld).1
        have fd : wd.frozen? ⟨gs, 0, none⟩ = false := (HH.out.row.below Ld HH.out.row.lt).free 0
        obtain ⟨Ad, cd2, nd, rfl⟩ : ∃ Ad cd2 nd, vd = .slice Ad nd cd2 := by
          rcases od.2 with ⟨rfl, h0⟩ | ⟨g, cap, cur, rfl, _⟩
          · exact ⟨none, 0, 0, rfl⟩
          · exact ⟨_, _, _, rfl⟩
        clear od
        refine wpAnyX_ready (rs := [20]) (by kernel_rfl) (by simp) ?_
        refine AllReadyX.last rfl (fun K hK => ?_)
        go_simp
        refine hK.out _ _ ?_
        clear hK K
        (try simp only [Act.put, List.setIfInBounds_toArray, List.set_cons_zero, List.set_cons_succ])
        refine wpAnyX_done (by kernel_rfl) ?_ _
        go_wp2_with fail
        refine (‹∀ (a : Act) (w : World), Code.wp Tryz.prog _ _ a w → _›) _ _ ?_
        go_wp2_with fail
        go_ret
        exact ⟨rfl, HS.out⟩
end Go.Proofs.YtahojhaeebmpoaaGreatDoor
