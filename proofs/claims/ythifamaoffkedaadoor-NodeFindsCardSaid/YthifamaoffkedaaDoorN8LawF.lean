/- NodeFinds: the law is true of any node, any key; where the library's table of powers lies as it was laid. -/
import Derived.Test.YthifamaoffkedaaDoorN8Known
import Derived.Test.YthifamaoffkedaaDoorN8RefL
namespace Go.Proofs.YthifamaoffkedaaDoor
open Go.RowKit
set_option linter.unusedVariables false
theorem fnd_eq (n : Nd) (key : Int) : fndL n key n.vp = match n.find key with | some p => (p : Int) | none => -1 := rfl
set_option maxRecDepth 100000 in
set_option maxHeartbeats 8000000 in
theorem lawFinds (n : Nd) (key : Int) (w : World) (T : Pow w) : Calls Tryd.prog 7 #[n.V, .int .u64 key] w fun e w' => e = .returned (.bool true) ∧ Below w.heap.size w w' := by
  have r0 := Row.new w 27 n.cl.toArray
  obtain ⟨Wa, hWa⟩ : ∃ Wa, Wa = w.alloc (.cells n.cl.toArray 27) := ⟨_, rfl⟩
  rw [← hWa] at r0
  have HB0 := Lib.hid (show Below w.heap.size w Wa by rw [hWa]; exact alloc_low _ _)
  have HRR := Lib.hid (fun W' (hb : Below Wa.heap.size Wa W') => (show NdAt W' w.heap.size n from r0.below hb r0.lt))
  have HWa := Lib.hid hWa
  have HK := Lib.hid (fun W' (hb : Below Wa.heap.size Wa W') => n8known_any W' (pow_low T (low_and HB0.out hb)))
  have HF := Lib.hid (fun W' => nFind_any n key W')
  have HG := Lib.hid (fun W' => r8Find_any n key W')
  rw [fnd_eq] at HG
  have HL := Lib.hid (fun W' => r8Last_any n key W')
  have HA := Lib.hid (fun W' => nAt_any n key W')
  have HC := Lib.hid (fun W' => nChild_any n key W')
  have hal := at_le n key
  have HCd := Lib.hid (show n.child key = if n.at key = 0 then n.fi else n.ptr (n.at key - 1) from rfl)
  have hfb : ∀ p, n.find key = some p → p < 8 := fun p h => n.vp_lt8 (List.mem_of_find?_eq_some h)
  obtain ⟨f, hf⟩ : ∃ f, f = n.find key := ⟨_, rfl⟩
  rw [← hf] at HF HG hfb
  obtain ⟨a, ha⟩ : ∃ a, a = n.at key := ⟨_, rfl⟩
  rw [← ha] at HL HA HCd hal
  obtain ⟨c, hc⟩ : ∃ c, c = n.child key := ⟨_, rfl⟩
  rw [← hc] at HC HCd
  have hr0 := Below.refl Wa.heap.size Wa
  clear r0 hWa hf ha hc
  have HC4 := Lib.hid (fun W' (hb : Below Wa.heap.size Wa W') => (show W'.cell? ⟨w.heap.size, 4, none⟩ = some (.int .u64 n.fi) from ndAt_at (HRR.out W' hb) 4))
  cases f with
  | none =>
    cases a with
    | zero =>
      have HL := Lib.hid (fun W' => (HL.out W').mono fun e w' h => (show e = .returned (.int .i64 (-1)) ∧ Below W'.heap.size W' w' from h))
      have hcd : c = n.fi := HCd.out
      subst hcd
      have HF := Lib.hid (fun W' => (HF.out W').mono fun e w' h => (show e = .returned (.tuple #[.int .i64 0, .bool false]) ∧ Below W'.heap.size W' w' from h))
      have HG := Lib.hid (fun W' => (HG.out W').mono fun e w' h => (show e = .returned (.int .i64 (-1)) ∧ Below W'.heap.size W' w' from h))
      clear hfb
      go_enter Tryd.func7, Tryd.ntmps7
      go_wp2_with (first
        | (rw [← HWa.out]; refine wpList_load_mid rfl _ _ rfl w.heap.size 0 rfl n.cl _ (ndR (HRR.out _ (by assumption))) Tryd.underlying27 rfl ndI ?_)
        | (go_at_call 30; refine (HF.out _).mono ?_; rintro e w1 ⟨rfl, h1⟩; have h1 := low_and hr0 h1)
        | (go_at_call 31; refine (HG.out _).mono ?_; rintro e w2 ⟨rfl, h2⟩; have h2 := low_and h1 h2)
        | (go_at_call 32; refine (HL.out _).mono ?_; rintro e w3 ⟨rfl, h3⟩; have h3 := low_and h2 h3; have c4 := HC4.out _ h3)
        | (go_at_call 33; refine (HA.out _).mono ?_; rintro e w4 ⟨rfl, h4⟩; have h4 := low_and h3 h4)
        | (go_at_call 34; refine (HC.out _).mono ?_; rintro e w5 ⟨rfl, h5⟩; have h5 := low_and h4 h5)
        | (go_at_call 14; refine (HK.out _ h5).mono ?_; rintro e w6 ⟨rfl, h6⟩; have h6 := low_and h5 h6)
        | (refine wpList_load_mid rfl _ _ rfl w.heap.size 0 rfl n.cl _ (ndR (HRR.out _ (by assumption))) Tryd.underlying27 rfl ndI ?_)
        | (refine wpList_load_midg (by rfl) _ _ rfl w.heap.size 0 rfl n.cl _ (ndR (HRR.out _ (by assumption))) Tryd.underlying27 rfl ndI ?_))
      go_ret
      exact ⟨rfl, low_and HB0.out h6⟩
    | succ j =>
      have hj1 : ((j + 1 : Nat) : Int) - 1 = (j : Int) := by omega
      have hj2 : ((j + 1 : Nat) : Int) = (j : Int) + 1 := by omega
      have HL := Lib.hid (fun W' => (HL.out W').mono fun e w' h => (show e = .returned (.int .i64 (j : Int)) ∧ Below W'.heap.size W' w' from by rw [← hj1]; exact h))
      have HA := Lib.hid (fun W' => (HA.out W').mono fun e w' h => (show e = .returned (.int .i64 ((j : Int) + 1)) ∧ Below W'.heap.size W' w' from by rw [← hj2]; exact h))
      have HPt := Lib.hid (fun W' (hb : Below Wa.heap.size Wa W') => ndAt_ptr (HRR.out W' hb) (i := j) (by omega))
      have hcd : c = n.ptr j := by have := HCd.out; simpa using this
      rw [← hcd] at HPt
      have hj8 : (j : Int) < 8 := by omega
      clear hj1 hj2 hcd
      have HF := Lib.hid (fun W' => (HF.out W').mono fun e w' h => (show e = .returned (.tuple #[.int .i64 0, .bool false]) ∧ Below W'.heap.size W' w' from h))
      have HG := Lib.hid (fun W' => (HG.out W').mono fun e w' h => (show e = .returned (.int .i64 (-1)) ∧ Below W'.heap.size W' w' from h))
      clear hfb
      go_enter Tryd.func7, Tryd.ntmps7
      go_wp2_with (first
        | (rw [← HWa.out]; refine wpList_load_mid rfl _ _ rfl w.heap.size 0 rfl n.cl _ (ndR (HRR.out _ (by assumption))) Tryd.underlying27 rfl ndI ?_)
        | (go_at_call 30; refine (HF.out _).mono ?_; rintro e w1 ⟨rfl, h1⟩; have h1 := low_and hr0 h1)
        | (go_at_call 31; refine (HG.out _).mono ?_; rintro e w2 ⟨rfl, h2⟩; have h2 := low_and h1 h2)
        | (go_at_call 32; refine (HL.out _).mono ?_; rintro e w3 ⟨rfl, h3⟩; have h3 := low_and h2 h3; have c4 := HC4.out _ h3; have cj := HPt.out _ h3)
        | (go_at_call 33; refine (HA.out _).mono ?_; rintro e w4 ⟨rfl, h4⟩; have h4 := low_and h3 h4)
        | (go_at_call 34; refine (HC.out _).mono ?_; rintro e w5 ⟨rfl, h5⟩; have h5 := low_and h4 h5)
        | (go_at_call 14; refine (HK.out _ h5).mono ?_; rintro e w6 ⟨rfl, h6⟩; have h6 := low_and h5 h6)
        | (refine wpList_load_mid rfl _ _ rfl w.heap.size 0 rfl n.cl _ (ndR (HRR.out _ (by assumption))) Tryd.underlying27 rfl ndI ?_)
        | (refine wpList_load_midg (by rfl) _ _ rfl w.heap.size 0 rfl n.cl _ (ndR (HRR.out _ (by assumption))) Tryd.underlying27 rfl ndI ?_))
      go_ret
      exact ⟨rfl, low_and HB0.out h6⟩
  | some p =>
    cases a with
    | zero =>
      have HL := Lib.hid (fun W' => (HL.out W').mono fun e w' h => (show e = .returned (.int .i64 (-1)) ∧ Below W'.heap.size W' w' from h))
      have hcd : c = n.fi := HCd.out
      subst hcd
      have hp8 := hfb p rfl
      have HF := Lib.hid (fun W' => (HF.out W').mono fun e w' h => (show e = .returned (.tuple #[.int .i64 (p : Int), .bool true]) ∧ Below W'.heap.size W' w' from h))
      have HG := Lib.hid (fun W' => (HG.out W').mono fun e w' h => (show e = .returned (.int .i64 (p : Int)) ∧ Below W'.heap.size W' w' from h))
      have hpp : ((p : Int) != (p : Int)) = false := by simp
      have hp0 : 0 ≤ (p : Int) := by omega
      clear hfb
      go_enter Tryd.func7, Tryd.ntmps7
      go_wp2_with (first
        | (rw [← HWa.out]; refine wpList_load_mid rfl _ _ rfl w.heap.size 0 rfl n.cl _ (ndR (HRR.out _ (by assumption))) Tryd.underlying27 rfl ndI ?_)
        | (go_at_call 30; refine (HF.out _).mono ?_; rintro e w1 ⟨rfl, h1⟩; have h1 := low_and hr0 h1)
        | (go_at_call 31; refine (HG.out _).mono ?_; rintro e w2 ⟨rfl, h2⟩; have h2 := low_and h1 h2)
        | (go_at_call 32; refine (HL.out _).mono ?_; rintro e w3 ⟨rfl, h3⟩; have h3 := low_and h2 h3; have c4 := HC4.out _ h3)
        | (go_at_call 33; refine (HA.out _).mono ?_; rintro e w4 ⟨rfl, h4⟩; have h4 := low_and h3 h4)
        | (go_at_call 34; refine (HC.out _).mono ?_; rintro e w5 ⟨rfl, h5⟩; have h5 := low_and h4 h5)
        | (go_at_call 14; refine (HK.out _ h5).mono ?_; rintro e w6 ⟨rfl, h6⟩; have h6 := low_and h5 h6)
        | (refine wpList_load_mid rfl _ _ rfl w.heap.size 0 rfl n.cl _ (ndR (HRR.out _ (by assumption))) Tryd.underlying27 rfl ndI ?_)
        | (refine wpList_load_midg (by rfl) _ _ rfl w.heap.size 0 rfl n.cl _ (ndR (HRR.out _ (by assumption))) Tryd.underlying27 rfl ndI ?_))
      go_ret
      exact ⟨rfl, low_and HB0.out h6⟩
    | succ j =>
      have hj1 : ((j + 1 : Nat) : Int) - 1 = (j : Int) := by omega
      have hj2 : ((j + 1 : Nat) : Int) = (j : Int) + 1 := by omega
      have HL := Lib.hid (fun W' => (HL.out W').mono fun e w' h => (show e = .returned (.int .i64 (j : Int)) ∧ Below W'.heap.size W' w' from by rw [← hj1]; exact h))
      have HA := Lib.hid (fun W' => (HA.out W').mono fun e w' h => (show e = .returned (.int .i64 ((j : Int) + 1)) ∧ Below W'.heap.size W' w' from by rw [← hj2]; exact h))
      have HPt := Lib.hid (fun W' (hb : Below Wa.heap.size Wa W') => ndAt_ptr (HRR.out W' hb) (i := j) (by omega))
      have hcd : c = n.ptr j := by have := HCd.out; simpa using this
      rw [← hcd] at HPt
      have hj8 : (j : Int) < 8 := by omega
      clear hj1 hj2 hcd
      have hp8 := hfb p rfl
      have HF := Lib.hid (fun W' => (HF.out W').mono fun e w' h => (show e = .returned (.tuple #[.int .i64 (p : Int), .bool true]) ∧ Below W'.heap.size W' w' from h))
      have HG := Lib.hid (fun W' => (HG.out W').mono fun e w' h => (show e = .returned (.int .i64 (p : Int)) ∧ Below W'.heap.size W' w' from h))
      have hpp : ((p : Int) != (p : Int)) = false := by simp
      have hp0 : 0 ≤ (p : Int) := by omega
      clear hfb
      go_enter Tryd.func7, Tryd.ntmps7
      go_wp2_with (first
        | (rw [← HWa.out]; refine wpList_load_mid rfl _ _ rfl w.heap.size 0 rfl n.cl _ (ndR (HRR.out _ (by assumption))) Tryd.underlying27 rfl ndI ?_)
        | (go_at_call 30; refine (HF.out _).mono ?_; rintro e w1 ⟨rfl, h1⟩; have h1 := low_and hr0 h1)
        | (go_at_call 31; refine (HG.out _).mono ?_; rintro e w2 ⟨rfl, h2⟩; have h2 := low_and h1 h2)
        | (go_at_call 32; refine (HL.out _).mono ?_; rintro e w3 ⟨rfl, h3⟩; have h3 := low_and h2 h3; have c4 := HC4.out _ h3; have cj := HPt.out _ h3)
        | (go_at_call 33; refine (HA.out _).mono ?_; rintro e w4 ⟨rfl, h4⟩; have h4 := low_and h3 h4)
        | (go_at_call 34; refine (HC.out _).mono ?_; rintro e w5 ⟨rfl, h5⟩; have h5 := low_and h4 h5)
        | (go_at_call 14; refine (HK.out _ h5).mono ?_; rintro e w6 ⟨rfl, h6⟩; have h6 := low_and h5 h6)
        | (refine wpList_load_mid rfl _ _ rfl w.heap.size 0 rfl n.cl _ (ndR (HRR.out _ (by assumption))) Tryd.underlying27 rfl ndI ?_)
        | (refine wpList_load_midg (by rfl) _ _ rfl w.heap.size 0 rfl n.cl _ (ndR (HRR.out _ (by assumption))) Tryd.underlying27 rfl ndI ?_))
      go_ret
      exact ⟨rfl, low_and HB0.out h6⟩
end Go.Proofs.YthifamaoffkedaaDoor
