/- Texts of this claim, packed: SnTl. -/
import Derived.Test.YtaabdmlmemmnaaaPk37
import Derived.Test.YtaabdmlmemmnaaaPk39
import Derived.Test.YtaabdmlmemmnaaaPk33
import Derived.Test.YtaabdmlmemmnaaaPk30
/- The law's trim; which nodes the law takes; no conditions. -/
namespace Go.Proofs.Ytaabdmlmemmnaaa
open Go.RowKit
set_option linter.unusedVariables false
attribute [local go_sem] Oper.semAt_some
theorem TrK.len {n m : Nd} {i : Nat} (h : TrK n m i) : m.len = n.len := by
  refine m.len_eq n.len_le (fun j hj => ?_) (fun h8 => ?_)
  · have := n.len_le
    rw [h.2.1 j (by omega)]
    exact n.len_before hj
  · rw [h.2.1 _ h8]
    exact n.len_at h8
theorem TrK.done {n m : Nd} (h : TrK n m 8) : m.tr (m.len + 1) m.len = n.tr n.len n.len := by
  rw [h.len]
  refine Nd.ext_of h.1 (fun i hi => ?_) (fun i hi => ?_)
  · rw [m.tr_key _ _ hi, n.tr_key _ _ hi, h.2.2 i hi]
    by_cases h1 : i < n.len
    · rw [if_pos (by omega), if_neg (by omega), if_pos h1]
    · rw [if_neg h1, if_pos (show n.len ≤ i ∧ i < 8 by omega)]
      split <;> rfl
  · rw [m.tr_ptr _ _ hi, n.tr_ptr _ _ hi, h.2.1 i hi]
set_option maxRecDepth 100000 in
set_option maxHeartbeats 3200000 in
theorem trim11_any (n : Nd) (w : World) : Calls Try.prog 15 #[n.V] w fun e w' => e = .returned (n.tr n.len n.len).V ∧ Below w.heap.size w w' := by
  have hlen8 := n.len_le
  have rx := Row.new w 27 n.cl.toArray
  have ry := Row.new (w.alloc (.cells n.cl.toArray 27)) 27 zeroNd.cl.toArray
  simp only [World.size_alloc] at ry
  obtain ⟨W1, hW1⟩ : ∃ W1, W1 = (w.alloc (.cells n.cl.toArray 27)).alloc (.cells #[.int .i64 0, .int .u64 0, .int .u64 0, .int .u64 0, .int .u64 0, .int .u64 0, .int .u64 0, .int .u64 0, .int .u64 0, .int .u64 0, .int .u64 0, .int .u64 0, .int .u64 0, .int .u64 0, .int .u64 0, .int .u64 0, .int .u64 0, .int .u64 0, .int .u64 0, .int .u64 0, .int .u64 0] 27) := ⟨_, rfl⟩
  have HB1 := Lib.hid (show Below w.heap.size w W1 by rw [hW1]; exact low_and (alloc_low _ _) (alloc_low _ _))
  have R0 := Lib.hid (show NdAt W1 w.heap.size n by rw [hW1]; exact rx.alloc _)
  have R1 := Lib.hid (show NdAt W1 (w.heap.size + 1) zeroNd by rw [hW1]; exact ry)
  have HS1 := Lib.hid (show w.heap.size + 2 ≤ W1.heap.size by rw [hW1]; simp)
  have HW1 := Lib.hid hW1
  have HL1 := Lib.hid (r8Len_any n W1)
  obtain ⟨k0, hk0⟩ : ∃ k0, k0 = n.len := ⟨_, rfl⟩
  rw [← hk0] at hlen8 HL1
  have HK0 := Lib.hid hk0
  clear hW1 rx ry hk0
  go_enter Try.func15, Try.ntmps15
  go_wp2_with (first
    | (rw [← HW1.out]; refine wpList_load_mid rfl _ _ rfl w.heap.size 0 rfl n.cl _ (ndR R0.out) Try.underlying27 rfl ndI ?_)
    | (refine HL1.out.mono ?_; rintro e w2 ⟨rfl, hb2⟩; have HB2 := Lib.hid hb2; clear hb2))
  have hsz2 := HB2.out.size
  have hsz1 := HS1.out
  go_loopw [3] (fun i wr => ∃ (k : Nat) (m : Nd), k0 ≤ k ∧ k ≤ 8 ∧ i = .int .i64 (k : Int) ∧ NdAt wr w.heap.size m ∧ NdAt wr (w.heap.size + 1) zeroNd ∧ TrK n m k ∧ Below w.heap.size w wr ∧ w.heap.size + 2 ≤ wr.heap.size) (fun i _ => 8 - (intOf i).toNat)
  case atStart => exact ⟨k0, n, Nat.le_refl _, hlen8, rfl, R0.out.below HB2.out R0.out.lt, R1.out.below HB2.out R1.out.lt, ⟨rfl, fun _ _ => rfl, fun j _ => by rw [if_neg (by have := HK0.out; omega)]⟩, low_and HB1.out HB2.out, by omega⟩
  case round =>
    rename World => wr
    obtain ⟨k, m, hk0, hk8, rfl, h0, h1, ht, hb, hsz⟩ := hrel
    have H0 := Lib.hid h0
    have H1 := Lib.hid h1
    have HB := Lib.hid hb
    have HT := Lib.hid ht
    by_cases hlt : k < 8
    · have c5 := ndAt_key h0 hlt
      have f5 := h0.free (5 + k)
      have HST := Lib.hid (ht.step hlt (by rw [← HK0.out]; exact hk0))
      clear h0 h1 hb ht
      go_wp2
      refine ⟨⟨k + 1, m.sk k 0, by omega, by omega, by go_num, ?_, H1.out.other (p := ⟨w.heap.size, 5 + k, none⟩) (by dsimp only; omega) _, HST.out, ?_, by simpa using hsz⟩, by simp [intOf]; omega⟩
      · have := H0.out.set (5 + k) (uw 0)
        rw [m.sk_cl hlt] at this
        exact this
      · have := HB.out.setCell (p := ⟨w.heap.size, 5 + k, none⟩) (Nat.le_refl _) (.int .u64 0)
        exact ⟨this.os, this.tape, this.output, this.size, this.block⟩
    · obtain rfl : k = 8 := by omega
      have HTR := Lib.hid (r11Trim_any m wr)
      rw [ht.done] at HTR
      clear h0 h1 hb ht hlt
      go_wp2_with (first
        | (refine wpList_load_mid rfl _ _ rfl w.heap.size 0 rfl m.cl _ (ndR H0.out) Try.underlying27 rfl ndI ?_)
        | (refine HTR.out.mono ?_; rintro e w3 ⟨rfl, hb3⟩; have HB3 := Lib.hid hb3; have H13 := Lib.hid (H1.out.below hb3 H1.out.lt); clear hb3)
        | (refine wpList_store_row rfl _ _ _ rfl (w.heap.size + 1) (n.tr n.len n.len).cl rfl rfl H13.out rfl ndI (cl_one _) ?_))
      refine bodyPost_ret (results_node1 rfl _ _ (w.heap.size + 1) (n.tr n.len n.len) rfl (row_setCells H13.out rfl)) rfl ⟨rfl, setCells_low _ (by omega) (low_and HB.out HB3.out)⟩
/-- The node that the law takes, and whether it does. -/
def Nd.side (n : Nd) : Nd := if n.nx = 0 then n else { n with nx := 1280 }
def rightB (n : Nd) : Bool := n.side.may 0 false && decide (n.side.inv < 0)
theorem Nd.side_eq {n : Nd} (h : n.nx = 0) : n.side = n := by unfold Nd.side; rw [if_pos h]
theorem Nd.side_cl {n : Nd} (h : n.nx ≠ 0) : n.cl.toArray.setIfInBounds 2 (uw 1280) = n.side.cl.toArray := by unfold Nd.side; rw [if_neg h]; rfl
end Go.Proofs.Ytaabdmlmemmnaaa
