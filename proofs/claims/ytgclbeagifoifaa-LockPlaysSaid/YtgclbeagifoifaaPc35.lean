/- Texts of this claim, packed: 7Do. -/
import Derived.Test.YtgclbeagifoifaaPc34
import Derived.Test.YtgclbeagifoifaaPc23
/- One call on the table and on the document's: the same answer, and both say the same behind; for any call. -/
namespace Go.Proofs.Ytgclbeagifoifaa
open Go.RowKit
set_option linter.unusedVariables false
theorem apart7 {w : World} {g b B gr n : Nat} {s : Lk} {l : List (Nat × Nat)} {wt : Nat → Nat} {vL vW : Value} (h : KAt w g b s) (hr : RefAt w B gr n l wt vL vW) : ∀ k, kfp g b k → ¬ rfp gr vL vW k := by
  obtain ⟨es, c, hb⟩ := h.mp.map
  have hg : w.heap[g]? = some (.cells _ 55 (0, 0)) := h.row
  have hno : ∀ (k : Nat) (cs : Array Value) (t : TypeId), w.heap[k]? = some (.cells cs t (0, 0)) → t ≠ 55 → ¬ kfp g b k := by
    rintro k cs t hk ht (rfl | rfl)
    · exact tg_ne hg hk (fun e => ht e.symm) rfl
    · rw [hb] at hk
      cases hk
  intro k hk hf
  rcases hf with rfl | hf | hf
  · exact hno _ _ _ hr.row (by decide) hk
  · obtain ⟨cs, hcs⟩ := own_tg hr.li hf
    exact hno _ _ _ hcs (by decide) hk
  · obtain ⟨cs, hcs⟩ := own_tg hr.wa hf
    exact hno _ _ _ hcs (by decide) hk
theorem RIs.but {w w' : World} {B gr m : Nat} {s : Lk} {vL vW : Value} {fp : Nat → Prop} (h : RIs w B gr s m vL vW) (hb : But w w' fp) (hn : ∀ k, fp k → ¬ rfp gr vL vW k) : RIs w' B gr s m vL vW := by
  obtain ⟨l, wt, hR, hI, hd, hl⟩ := h.ex
  exact ⟨l, wt, hR.same fun k hk => hb.block k (hR.lt k hk) (fun hf => hn k hf hk), hI, hd, hl⟩
/-- The table at g (its map at b) and the document's at gr both say what s says. -/
structure Both (w : World) (B g b gr : Nat) (s : Lk) (m : Nat) (vL vW : Value) : Prop where
  k : KAt w g b s
  r : RIs w B gr s m vL vW
theorem Both.apart {w : World} {B g b gr m : Nat} {s : Lk} {vL vW : Value} (h : Both w B g b gr s m vL vW) : ∀ k, kfp g b k → ¬ rfp gr vL vW k := by
  obtain ⟨l, wt, hR, _⟩ := h.r.ex
  exact apart7 h.k hR
theorem drop_all {w : World} {g b : Nat} {s : Lk} (h : KAt w g b s) (c : Int) :
    Calls Try.prog 20 #[.pointer (some ⟨g, 0, none⟩), .int .i64 c] w fun e w' => e = .returned (.tuple #[]) ∧ KAt w' g b (dropT s c) ∧ But w w' (kfp g b) := by
  by_cases hc : isC s c = true
  · obtain ⟨k, rfl, hk⟩ := isC_of hc
    have e2 : dropT s (k : Int) = dropS s k := by simp [dropT, hc]
    rw [e2]
    obtain ⟨xs, hx⟩ := held_ex h.ok k
    exact drop_any h hk hx
  · have hcf : isC s c = false := by simpa using hc
    refine (drop_out (fun W hb => by have := kis_any (h.below hb) c; rwa [hcf] at this)).mono ?_
    rintro e w' ⟨rfl, hb⟩
    exact ⟨rfl, by simpa [dropT, hcf] using h.below hb, But.of_below hb _⟩
theorem dropT_n (s : Lk) (c : Int) : (dropT s c).n = s.n := by unfold dropT; split <;> rfl
theorem dropT_sz (s : Lk) (c : Int) : (dropT s c).sz = s.sz := by unfold dropT; split <;> rfl
theorem apartB {w : World} {g b B gr m : Nat} {s s2 : Lk} {vL vW : Value} (h : KAt w g b s) (r : RIs w B gr s2 m vL vW) : ∀ k, kfp g b k → ¬ rfp gr vL vW k := by
  obtain ⟨l, wt, hR, _⟩ := r.ex
  exact apart7 h hR
theorem KAt.past {w w' : World} {g b B gr m : Nat} {s s2 : Lk} {vL vW : Value} (h : KAt w g b s) (r : RIs w B gr s2 m vL vW) (hb : But w w' (rfp gr vL vW)) : KAt w' g b s :=
  h.but hb (apartB h r g (.inl rfl)) (apartB h r b (.inr rfl))
theorem RIs.past {w w' : World} {g b B gr m : Nat} {s s2 : Lk} {vL vW : Value} (r : RIs w B gr s2 m vL vW) (h : KAt w g b s) (hb : But w w' (kfp g b)) : RIs w' B gr s2 m vL vW := r.but hb (apartB h r)
theorem RIs.below {w w' : World} {B gr m : Nat} {s2 : Lk} {vL vW : Value} (r : RIs w B gr s2 m vL vW) (hb : Below w.heap.size w w') : RIs w' B gr s2 m vL vW := by
  obtain ⟨l, wt, hR, h2⟩ := r.ex
  exact ⟨l, wt, hR.below hb, h2⟩
theorem RIs.grow {w : World} {B gr m m' : Nat} {s2 : Lk} {vL vW : Value} (r : RIs w B gr s2 m vL vW) (hm : m ≤ m') : RIs w B gr s2 m' vL vW := by
  obtain ⟨l, wt, hR, h2, h3, h4⟩ := r.ex
  exact ⟨l, wt, hR, h2, h3, Nat.le_trans h4 hm⟩
/-- Who has a lock, as both say it. -/
theorem hold_case (s : Lk) (id : Nat) : ∃ (v : Int) (bq : Bool) (r : Int), hV (s.hm id) = .int .i64 v ∧ (s.hm id).isSome = bq ∧ hmI (s.hm id) = r ∧ decide (0 ≤ r) = bq ∧ max r 0 = v := by
  cases h : s.hm id with
  | none => exact ⟨0, false, -1, rfl, rfl, rfl, rfl, rfl⟩
  | some d => exact ⟨(d : Int), true, (d : Int), rfl, rfl, rfl, by simp, by omega⟩
theorem RIs.holder {w : World} {B gr m : Nat} {s : Lk} {vL vW : Value} (r : RIs w B gr s m vL vW) (id : Nat) :
    Calls Try.prog 23 #[.pointer (some ⟨gr, 0, none⟩), .int .u64 (id : Int)] w fun e w' => e = .returned (.int .i64 (hmI (s.hm id))) ∧ w = w' := by
  obtain ⟨l, wt, hR, hI, _⟩ := r.ex
  have := rHolder_any hR id
  rwa [hI.hold id] at this
/-- What stands behind a call. -/
def DoPost (w : World) (B g b gr : Nat) (s' : Lk) (m : Nat) (vL vW : Value) (e : Ending) (w' : World) : Prop :=
  e = .returned (.tuple #[.pointer (some ⟨g, 0, none⟩), .bool true]) ∧ KAt w' g b s' ∧ (∃ vL', RIs w' B gr s' m vL' vW ∧ ∀ k, vL'.ownBlock = some k → vL.ownBlock = some k ∨ w.heap.size ≤ k) ∧ But w w' (fun k => kfp g b k ∨ rfp gr vL vW k)
set_option maxRecDepth 100000 in
set_option maxHeartbeats 3200000 in
theorem do7_try {w : World} {B g b gr m : Nat} {s : Lk} {vL vW : Value} (h : KAt w g b s) (r : RIs w B gr s m vL vW) (hB : B ≤ w.heap.size) (hm : m ≤ 900) (hz : s.sz ≤ 900) (c : Int) {id : Nat} (hi : id < 18446744073709551616) :
    Calls Try.prog 8 #[.pointer (some ⟨g, 0, none⟩), .pointer (some ⟨gr, 0, none⟩), .agg #[.int .i64 1, .int .i64 c, .int .u64 (id : Int)]] w (DoPost w B g b gr (tryT s c id) (m + 1) vL vW) := by
  have mixed : Try.prog.follows .mixedOrders = true := by kernel_rfl
  have ra := Row.new w 36 #[.int .i64 1, .int .i64 c, .int .u64 (id : Int)]
  obtain ⟨Wa, hWa⟩ : ∃ Wa, Wa = w.alloc (.cells #[.int .i64 1, .int .i64 c, .int .u64 (id : Int)] 36) := ⟨_, rfl⟩
  rw [← hWa] at ra
  have hba : Below w.heap.size w Wa := by rw [hWa]; exact alloc_below _ _
  have HWa := Lib.hid hWa
  have HB0 := Lib.hid (show Below w.heap.size w Wa.drew from Below.and hba (drew_below Wa))
  have HK := Lib.hid (fun W' (hb : Below w.heap.size w W') => h.below hb)
  have HR := Lib.hid (fun W' (hb : Below w.heap.size w W') => r.below hb)
  have HT := Lib.hid (fun W' (hb : Below w.heap.size w W') => try_all (h.below hb) c hi (by omega))
  have HLT := Lib.hid (show ∀ k, kfp g b k ∨ rfp gr vL vW k → k < w.heap.size from by
    obtain ⟨l, wt, hR, _⟩ := r.ex
    rintro k ((rfl | rfl) | hk)
    · exact h.row.lt
    · exact h.mp.lt
    · exact hR.lt k hk)
  have HOK := Lib.hid h.ok
  have HSB := Lib.hid (show w.heap.size < Wa.drew.heap.size by have := ra.lt; simpa using this)
  have hs0 : w.heap.size ≤ Wa.drew.heap.size := HB0.out.size
  have rd : Row Wa.drew w.heap.size 36 #[.int .i64 1, .int .i64 c, .int .u64 (id : Int)] := ra.below (drew_below Wa) ra.lt
  have HRD := Lib.hid rd
  have HS := Lib.hid (fun W' (hb : But Wa.drew W' (kfp g b)) => (show W'.cell? ⟨w.heap.size, 1, none⟩ = some (.int .i64 c) ∧ W'.cell? ⟨w.heap.size, 2, none⟩ = some (.int .u64 (id : Int)) from by
    have rw' := hb.row rd (fun hf => Nat.lt_irrefl _ (HLT.out _ (.inl hf)))
    have b1 := rw'.cell 1
    have b2 := rw'.cell 2
    simp only [List.getElem?_toArray, List.getElem?_cons_succ, List.getElem?_cons_zero] at b1 b2
    exact ⟨b1, b2⟩))
  have a0 := ra.cell 0
  have a1 := ra.cell 1
  have a2 := ra.cell 2
  simp only [List.getElem?_toArray, List.getElem?_cons_succ, List.getElem?_cons_zero] at a0 a1 a2
  have d1 := rd.cell 1
  have d2 := rd.cell 2
  simp only [List.getElem?_toArray, List.getElem?_cons_succ, List.getElem?_cons_zero] at d1 d2
  obtain ⟨v, bq, rr, e1, e2, e3, e4, e5⟩ := hold_case (tryT s c id) id
  have HV1 := Lib.hid (And.intro e1 (And.intro e2 e3))
  obtain ⟨tb, htb⟩ : ∃ tb, tb = tryR s c id := ⟨_, rfl⟩
  have HTB := Lib.hid htb
  rw [← htb] at HT
  clear h r hba hWa ra e1 e2 e3 htb rd
  go_enter Try.func8, Try.ntmps8
  go_wp2_with (first | (rw [← HWa.out]; go_simp))
  refine wp_region_noPanic ?_
  refine wp_region_held_drew (S := fun W' => W'.cell? ⟨w.heap.size, 1, none⟩ = some (.int .i64 c) ∧ W'.cell? ⟨w.heap.size, 2, none⟩ = some (.int .u64 (id : Int))) (by kernel_rfl) ⟨d1, d2⟩ (fun hHeld => ?_)
  refine wpAnyH_take (i := 0) (oi := ⟨some 16, _, _, _, _, _⟩) (v := .pointer (some ⟨g, 0, none⟩)) rfl (by kernel_rfl) (by kernel_rfl) (by kernel_rfl) (fun _ _ _ h => h) (Or.inl ⟨by kernel_rfl, by intro WW hSw; (try dsimp only at hSw); obtain ⟨hS1, hS2⟩ := hSw; go_simp⟩) (by assumption) ?_
  (try simp only [Act.put, List.setIfInBounds_toArray, List.set_cons_zero, List.set_cons_succ])
  refine wpAnyH_take (i := 1) (oi := ⟨some 17, _, _, _, _, _⟩) (v := .pointer (some ⟨w.heap.size, 1, none⟩)) rfl (by kernel_rfl) (by kernel_rfl) (by kernel_rfl) (fun _ _ _ h => h) (Or.inl ⟨by kernel_rfl, by intro WW hSw; (try dsimp only at hSw); obtain ⟨hS1, hS2⟩ := hSw; go_simp⟩) (by assumption) ?_
  (try simp only [Act.put, List.setIfInBounds_toArray, List.set_cons_zero, List.set_cons_succ])
  refine wpAnyH_take (i := 2) (oi := ⟨some 18, _, _, _, _, _⟩) (v := .int .i64 c) rfl (by kernel_rfl) (by kernel_rfl) (by kernel_rfl) (fun _ _ _ h => h) (Or.inl ⟨by kernel_rfl, by intro WW hSw; (try dsimp only at hSw); obtain ⟨hS1, hS2⟩ := hSw; go_simp⟩) (by assumption) ?_
  (try simp only [Act.put, List.setIfInBounds_toArray, List.set_cons_zero, List.set_cons_succ])
  refine wpAnyH_take (i := 3) (oi := ⟨some 19, _, _, _, _, _⟩) (v := .pointer (some ⟨w.heap.size, 2, none⟩)) rfl (by kernel_rfl) (by kernel_rfl) (by kernel_rfl) (fun _ _ _ h => h) (Or.inl ⟨by kernel_rfl, by intro WW hSw; (try dsimp only at hSw); obtain ⟨hS1, hS2⟩ := hSw; go_simp⟩) (by assumption) ?_
  (try simp only [Act.put, List.setIfInBounds_toArray, List.set_cons_zero, List.set_cons_succ])
  refine wpAnyH_take (i := 4) (oi := ⟨some 20, _, _, _, _, _⟩) (v := .int .u64 (id : Int)) rfl (by kernel_rfl) (by kernel_rfl) (by kernel_rfl) (fun _ _ _ h => h) (Or.inl ⟨by kernel_rfl, by intro WW hSw; (try dsimp only at hSw); obtain ⟨hS1, hS2⟩ := hSw; go_simp⟩) (by assumption) ?_
  (try simp only [Act.put, List.setIfInBounds_toArray, List.set_cons_zero, List.set_cons_succ])
  refine wpAnyH_take (i := 6) (oi := ⟨some 22, _, _, _, _, _⟩) (v := .pointer (some ⟨gr, 0, none⟩)) rfl (by kernel_rfl) (by kernel_rfl) (by kernel_rfl) (fun _ _ _ h => h) (Or.inl ⟨by kernel_rfl, by intro WW hSw; (try dsimp only at hSw); obtain ⟨hS1, hS2⟩ := hSw; go_simp⟩) (by assumption) ?_
  (try simp only [Act.put, List.setIfInBounds_toArray, List.set_cons_zero, List.set_cons_succ])
  refine wpAnyH_take (i := 7) (oi := ⟨some 23, _, _, _, _, _⟩) (v := .pointer (some ⟨w.heap.size, 1, none⟩)) rfl (by kernel_rfl) (by kernel_rfl) (by kernel_rfl) (fun _ _ _ h => h) (Or.inl ⟨by kernel_rfl, by intro WW hSw; (try dsimp only at hSw); obtain ⟨hS1, hS2⟩ := hSw; go_simp⟩) (by assumption) ?_
  (try simp only [Act.put, List.setIfInBounds_toArray, List.set_cons_zero, List.set_cons_succ])
  refine wpAnyH_take (i := 8) (oi := ⟨some 24, _, _, _, _, _⟩) (v := .int .i64 c) rfl (by kernel_rfl) (by kernel_rfl) (by kernel_rfl) (fun _ _ _ h => h) (Or.inl ⟨by kernel_rfl, by intro WW hSw; (try dsimp only at hSw); obtain ⟨hS1, hS2⟩ := hSw; go_simp⟩) (by assumption) ?_
  (try simp only [Act.put, List.setIfInBounds_toArray, List.set_cons_zero, List.set_cons_succ])
  refine wpAnyH_take (i := 9) (oi := ⟨some 25, _, _, _, _, _⟩) (v := .pointer (some ⟨w.heap.size, 2, none⟩)) rfl (by kernel_rfl) (by kernel_rfl) (by kernel_rfl) (fun _ _ _ h => h) (Or.inl ⟨by kernel_rfl, by intro WW hSw; (try dsimp only at hSw); obtain ⟨hS1, hS2⟩ := hSw; go_simp⟩) (by assumption) ?_
  (try simp only [Act.put, List.setIfInBounds_toArray, List.set_cons_zero, List.set_cons_succ])
  refine wpAnyH_take (i := 10) (oi := ⟨some 26, _, _, _, _, _⟩) (v := .int .u64 (id : Int)) rfl (by kernel_rfl) (by kernel_rfl) (by kernel_rfl) (fun _ _ _ h => h) (Or.inl ⟨by kernel_rfl, by intro WW hSw; (try dsimp only at hSw); obtain ⟨hS1, hS2⟩ := hSw; go_simp⟩) (by assumption) ?_
  (try simp only [Act.put, List.setIfInBounds_toArray, List.set_cons_zero, List.set_cons_succ])
  refine wpAnyH_ready (rs := [5]) (by kernel_rfl) (by simp) ?_
  refine AllReadyH.cons rfl (fun K hK => ?_) AllReadyH.nil
  go_simp
  refine (HT.out _ HB0.out).mono ?_
  rintro e w1 ⟨rfl, hk1, hb1⟩
  have hr1 := RIs.past (HR.out _ HB0.out) (HK.out _ HB0.out) hb1
  have hbu1 : But w w1 (fun k => kfp g b k ∨ rfp gr vL vW k) := ((But.of_below HB0.out _).trans hb1 (fun k hk => .inl (.inl hk)))
  have hs1 := hbu1.size
  have HT2 := Lib.hid (rTry_all hr1 HOK.out (by omega) (by omega) c id)
  have HRD1 := Lib.hid (hb1.row HRD.out (fun hf => Nat.lt_irrefl _ (HLT.out _ (.inl hf))))
  have HK1 := Lib.hid hk1
  have HR1 := Lib.hid hr1
  have HBU1 := Lib.hid hbu1
  have HSZ1 := Lib.hid (show w.heap.size < w1.heap.size by have := hb1.size; have := HSB.out; omega)
  rw [← HTB.out] at HT2
  refine hK.out _ _ (HS.out _ hb1) (fun hSn => ?_)
  clear hK K hk1 hb1 hr1 hbu1
  (try simp only [Act.put, List.setIfInBounds_toArray, List.set_cons_zero, List.set_cons_succ])
  refine wpAnyH_ready (rs := [11]) (by kernel_rfl) (by simp) ?_
  refine AllReadyH.cons rfl (fun K hK => ?_) AllReadyH.nil
  go_simp
  refine HT2.out.mono ?_
  rintro e w2 ⟨rfl, ⟨vL', hr2, hf2⟩, hb2⟩
  have HK2 := Lib.hid (HK1.out.past HR1.out hb2)
  have HBU2 := Lib.hid (HBU1.out.trans hb2 (fun k hk => .inl (.inr hk)))
  have HFF := Lib.hid (show ∃ vL', RIs w2 B gr (tryT s c id) (m + 1) vL' vW ∧ ∀ k, vL'.ownBlock = some k → vL.ownBlock = some k ∨ w.heap.size ≤ k from ⟨vL', hr2, fun k hk => (hf2 k hk).imp (fun h0 => h0) (fun h1 => Nat.le_trans hs1 h1)⟩)
  have rd2 := hb2.row HRD1.out (fun hf => Nat.lt_irrefl _ (HLT.out _ (.inr hf)))
  have b1 := rd2.cell 1
  have b2 := rd2.cell 2
  simp only [List.getElem?_toArray, List.getElem?_cons_succ, List.getElem?_cons_zero] at b1 b2
  have HH := holder_any HK2.out hi
  rw [HV1.out.1, HV1.out.2.1] at HH
  have HRH := hr2.holder id
  rw [HV1.out.2.2] at HRH
  have HH := Lib.hid HH
  have HRH := Lib.hid HRH
  refine hK.out _ _ ⟨b1, b2⟩ (fun hSn => ?_)
  clear hK K hr2 hf2 hb2 rd2 a0 a1 a2 d1 d2
  (try simp only [Act.put, List.setIfInBounds_toArray, List.set_cons_zero, List.set_cons_succ])
  refine wpAnyH_take (i := 12) (oi := ⟨some 28, _, _, _, _, _⟩) (v := .bool true) rfl (by kernel_rfl) (by kernel_rfl) (by kernel_rfl) (fun _ _ _ h => h) (Or.inl ⟨by kernel_rfl, by intro WW hSw; (try dsimp only at hSw); obtain ⟨hS1, hS2⟩ := hSw; go_simp⟩) (by assumption) ?_
  (try simp only [Act.put, List.setIfInBounds_toArray, List.set_cons_zero, List.set_cons_succ])
  refine wpAnyH_take (i := 13) (oi := ⟨some 8, _, _, _, _, _⟩) (v := .bool true) rfl (by kernel_rfl) (by kernel_rfl) (by kernel_rfl) (fun _ _ _ h => h) (Or.inl ⟨by kernel_rfl, by intro WW hSw; (try dsimp only at hSw); obtain ⟨hS1, hS2⟩ := hSw; go_simp⟩) (by assumption) ?_
  (try simp only [Act.put, List.setIfInBounds_toArray, List.set_cons_zero, List.set_cons_succ])
  refine wpAnyH_done (by kernel_rfl) ?_ _
  simp only [NoPanic, Exit.inBlock, Exit.then]
  refine (‹∀ (a : Act) (w : World), Code.wp Try.prog _ _ a w → _›) _ _ ?_
  go_wp2_with (first
    | (go_at_call 22; refine HH.out.mono ?_; rintro e w3 ⟨rfl, rfl⟩)
    | (go_at_call 23; refine HRH.out.mono ?_; rintro e w3 ⟨rfl, rfl⟩))
  go_ret2
  exact ⟨rfl, HK2.out, HFF.out, HBU2.out⟩
end Go.Proofs.Ytgclbeagifoifaa
