/- Texts of this claim, packed: N8Num. -/
import Derived.Test.YtkbklooocdfcfaaGreatDoorPzQ
import Derived.Test.YtkbklooocdfcfaaGreatDoorPz19
import Derived.Test.YtkbklooocdfcfaaGreatDoorPz42
import Derived.Lib.ItoaNum
set_option linter.unusedVariables false
set_option maxRecDepth 100000
set_option maxHeartbeats 6400000
namespace Go.Proofs.YtkbklooocdfcfaaGreatDoor
open Go.RowKit
def numS (n : Nat) : ByteArray := ⟨(Lib.decDigits n).toArray⟩
theorem numS_one {n : Nat} (h : n < 10) : strOf [48 + n] = numS n := by
 unfold numS
 rw [Lib.decDigits, dif_pos h]
 rfl
theorem numS_more {n : Nat} (h : ¬ n < 10) : numS (n / 10) ++ strOf [48 + n % 10] = numS n := by
 have : numS n = ⟨(Lib.decDigits (n / 10) ++ [UInt8.ofNat (48 + n % 10)]).toArray⟩ := by unfold numS; rw [Lib.decDigits, dif_neg h]
 rw [this]
 apply ByteArray.ext
 rw [ByteArray.data_append]
 simp [numS, strOf]
theorem dec_len (u : Nat) : (Lib.decDigits u).length <= u + 1 := by
 induction u using Nat.strongRecOn with
 | _ u ih =>
  rw [Lib.decDigits]
  split
  ·simp
  ·have := ih (u / 10) (by omega)
   rw [List.length_append, List.length_singleton]
   omega
theorem byte1 (w : World) (c : Nat) : Sl (w.alloc (.cells #[.int .u8 (c : Int)] 5)) (some ⟨w.heap.size, 0, none⟩) ([c].map bv) := sl_lit w 5 [c] bv
theorem conv1 (W : World) (g m : Nat) (h : Sl W (some ⟨g, 0, none⟩) ([m].map bv)) : (convert 42 9 (.slice (some ⟨g, 0, none⟩) 1 1)).run Tryz.prog W = .ok (.string (strOf [m])) W := conv_sl 1 1 rfl h
theorem r8Num_any (n : Nat) : n < 18446744073709551616 -> ∀ w : World, Calls Tryz.prog 87 #[.int .u64 (n : Int)] w fun e w' => e = .returned (.string (numS n)) /\ Below w.heap.size w w' := by
 induction n using Nat.strongRecOn with
 | _ n ih =>
 intro hn w
 by_cases h : n < 10
 ·have d1 : decide (n < 10) = true := by simpa using h
  have d2 : decide ((n : Int) < 10) = true := decide_eq_true (by omega)
  have h10 : (n : Int) < 10 := by omega
  have hc := fun W (hs : Sl W (some ⟨w.heap.size, 0, none⟩) ([48 + n].map bv)) => conv_sl (w := W) (a := ⟨w.heap.size, 0, none⟩) (l := [48 + n]) 1 1 rfl hs
  have hc1 := hc _ (byte1 w (48 + n))
  rw [show ((48 + n : Nat) : Int) = 48 + (n : Int) by omega] at hc1
  rw [numS_one h] at hc1
  obtain ⟨S, hS⟩ : ∃ S, S = numS n := ⟨_, rfl⟩
  rw [<- hS] at hc1 ⊢
  clear ih hS hc
  go_enter Tryz.func87, Tryz.ntmps87
  go_wp2
  go_ret
  exact ⟨rfl, alloc_below _ _⟩
 ·have d1 : decide (n < 10) = false := by simpa using h
  have d2 : decide ((n : Int) < 10) = false := decide_eq_false (by omega)
  have h10 : 10 <= (n : Int) := by omega
  have mixed : Tryz.prog.follows .mixedOrders = true := by kernel_rfl
  have hmore := numS_more h
  have hq : n / 10 < n := by omega
  have IH := Lib.hid (ih (n / 10) hq (by omega))
  rw [show ((n / 10 : Nat) : Int) = (n : Int) / 10 by omega] at IH
  have hm : n % 10 < 10 := Nat.mod_lt _ (by decide)
  obtain ⟨S, hS⟩ : ∃ S, S = numS n := ⟨_, rfl⟩
  obtain ⟨T, hT⟩ : ∃ T, T = numS (n / 10) := ⟨_, rfl⟩
  have hTz : T.size <= n / 10 + 1 := by
   rw [hT]
   exact dec_len _
  obtain ⟨m, hmd⟩ : ∃ m, m = 48 + n % 10 := ⟨_, rfl⟩
  have hmI : 48 + (n : Int) % 10 = (m : Int) := by omega
  have hm58 : m < 58 := by omega
  rw [<- hT] at IH
  rw [<- hS, <- hT, <- hmd] at hmore
  rw [<- hS]
  have HMORE := Lib.hid hmore
  have EG : ∀ args w, (callFunc 87 args).run Tryz.prog w = .ok (.enter 87 args) w := enters_of Tryz.func87 (by kernel_rfl) rfl
  have EGH := Lib.hid EG
  clear ih hS hT hmd hmore hm h EG
  go_enter Tryz.func87, Tryz.ntmps87
  obtain ⟨U, hU⟩ : ∃ U, U = strOf [m] := ⟨_, rfl⟩
  have hcv := fun W g => conv1 W g m
  have hUz : U.size = 1 := by rw [hU]; rfl
  rw [<- hU] at hcv HMORE
  have HCV := Lib.hid hcv
  have hTU : T ++ U = S := HMORE.out
  have hw1 : IntKind.u64.wrap ((n : Int) / 10) = (n : Int) / 10 := by show ((n : Int) / 10) % 18446744073709551616 = _; omega
  have ht : (n : Int).tmod 10 = (n : Int) % 10 := Int.tmod_eq_emod_of_nonneg (by omega)
  have hw2 : IntKind.u64.wrap ((n : Int) % 10) = (n : Int) % 10 := by show ((n : Int) % 10) % 18446744073709551616 = _; omega
  have hw3 : IntKind.u64.wrap (m : Int) = (m : Int) := by show (m : Int) % 18446744073709551616 = _; omega
  have hw4 : IntKind.u8.wrap (m : Int) = (m : Int) := by show (m : Int) % 256 = _; omega
  have hsz : T.size + U.size <= 9223372036854775807 := by omega
  clear hcv hU HMORE hTz hUz
  go_wp2_with fail
  refine wp_region_any (by kernel_rfl) ?_
  change wpAny _ _ _ _ _ _ _ (World.drew _)
  refine wpAny_take (i := 0) (oi := ⟨some 10, _, _, _, _, _⟩) (v := .int .u64 (n : Int)) rfl (by kernel_rfl) (by kernel_rfl) (by kernel_rfl) (fun _ _ _ h => h) (Or.inl ⟨by kernel_rfl, by intro w; go_simp⟩) ?_
  simp only [Act.put, List.setIfInBounds_toArray, List.set_cons_zero, List.set_cons_succ]
  refine wpAny_take (i := 1) (oi := ⟨some 11, _, _, _, _, _⟩) (v := .int .u64 ((n : Int) / 10)) rfl (by kernel_rfl) (by kernel_rfl) (by kernel_rfl) (fun _ _ _ h => h) (Or.inl ⟨by kernel_rfl, by intro w; go_simp⟩) ?_
  simp only [Act.put, List.setIfInBounds_toArray, List.set_cons_zero, List.set_cons_succ]
  refine wpAny_take (i := 3) (oi := ⟨some 13, _, _, _, _, _⟩) (v := .int .u64 (n : Int)) rfl (by kernel_rfl) (by kernel_rfl) (by kernel_rfl) (fun _ _ _ h => h) (Or.inl ⟨by kernel_rfl, by intro w; go_simp⟩) ?_
  simp only [Act.put, List.setIfInBounds_toArray, List.set_cons_zero, List.set_cons_succ]
  refine wpAny_take (i := 4) (oi := ⟨some 14, _, _, _, _, _⟩) (v := .int .u64 ((n : Int) % 10)) rfl (by kernel_rfl) (by kernel_rfl) (by kernel_rfl) (fun _ _ _ h => h) (Or.inl ⟨by kernel_rfl, by intro w; go_simp⟩) ?_
  simp only [Act.put, List.setIfInBounds_toArray, List.set_cons_zero, List.set_cons_succ]
  refine wpAny_take (i := 5) (oi := ⟨some 15, _, _, _, _, _⟩) (v := .int .u64 (m : Int)) rfl (by kernel_rfl) (by kernel_rfl) (by kernel_rfl) (fun _ _ _ h => h) (Or.inl ⟨by kernel_rfl, by intro w; go_simp⟩) ?_
  simp only [Act.put, List.setIfInBounds_toArray, List.set_cons_zero, List.set_cons_succ]
  refine wpAny_take (i := 6) (oi := ⟨some 16, _, _, _, _, _⟩) (v := .int .u8 (m : Int)) rfl (by kernel_rfl) (by kernel_rfl) (by kernel_rfl) (fun _ _ _ h => h) (Or.inl ⟨by kernel_rfl, by intro w; go_simp⟩) ?_
  simp only [Act.put, List.setIfInBounds_toArray, List.set_cons_zero, List.set_cons_succ]
  refine wpAny_ready (rs := [2, 7]) (by kernel_rfl) (by simp) ?_
  refine AllReady.cons rfl (fun K hK => ?_) (AllReady.cons rfl (fun K hK => ?_) AllReady.nil)
  ·skip
   go_simp
   refine (IH.out _).mono ?_
   rintro e w1 ⟨rfl, hb1⟩
   refine hK _ _ ?_
   clear hK K
   (try simp only [Act.put, q1, q2, q3])
   refine wpAny_ready (rs := [7]) (by kernel_rfl) (by simp) ?_
   refine AllReady.cons rfl (fun K hK => ?_) AllReady.nil
   go_simp
   refine hK _ _ ?_
   clear hK K
   (try simp only [Act.put, q1, q2, q3])
   refine wpAny_ready (rs := [8]) (by kernel_rfl) (by simp) ?_
   refine AllReady.cons rfl (fun K hK => ?_) AllReady.nil
   have hc2 := HCV.out _ w1.heap.size (byte1 w1 m)
   go_simp
   refine hK _ _ ?_
   clear hK K
   (try simp only [Act.put, q1, q2, q3])
   clear hc2
   refine wpAny_take (i := 9) (oi := ⟨some 19, _, _, _, _, _⟩) (v := .string S) rfl (by kernel_rfl) (by kernel_rfl) (by kernel_rfl) (fun _ _ _ h => h) (Or.inl ⟨by kernel_rfl, by intro w; go_simp⟩) ?_
   simp only [Act.put, List.setIfInBounds_toArray, List.set_cons_zero, List.set_cons_succ]
   refine wpAny_take (i := 10) (oi := ⟨some 2, _, _, _, _, _⟩) (v := .string S) rfl (by kernel_rfl) (by kernel_rfl) (by kernel_rfl) (fun _ _ _ h => h) (Or.inl ⟨by kernel_rfl, by intro w; go_simp⟩) ?_
   simp only [Act.put, List.setIfInBounds_toArray, List.set_cons_zero, List.set_cons_succ]
   refine wpAny_done (by kernel_rfl) ?_ _
   go_wp2
   go_ret
   exact ⟨rfl, Below.and (Below.and (drew_below w) hb1) (alloc_below _ _)⟩
  ·skip
   go_simp
   refine hK _ _ ?_
   clear hK K
   (try simp only [Act.put, q1, q2, q3])
   refine wpAny_ready (rs := [2, 8]) (by kernel_rfl) (by simp) ?_
   refine AllReady.cons rfl (fun K hK => ?_) (AllReady.cons rfl (fun K hK => ?_) AllReady.nil)
   ·skip
    go_simp
    refine (IH.out _).mono ?_
    rintro e w1 ⟨rfl, hb1⟩
    refine hK _ _ ?_
    clear hK K
    (try simp only [Act.put, q1, q2, q3])
    refine wpAny_ready (rs := [8]) (by kernel_rfl) (by simp) ?_
    refine AllReady.cons rfl (fun K hK => ?_) AllReady.nil
    have hc2 := HCV.out w1 w.heap.size ((byte1 w.drew m).below hb1)
    go_simp
    refine hK _ _ ?_
    clear hK K
    (try simp only [Act.put, q1, q2, q3])
    clear hc2
    refine wpAny_take (i := 9) (oi := ⟨some 19, _, _, _, _, _⟩) (v := .string S) rfl (by kernel_rfl) (by kernel_rfl) (by kernel_rfl) (fun _ _ _ h => h) (Or.inl ⟨by kernel_rfl, by intro w; go_simp⟩) ?_
    simp only [Act.put, List.setIfInBounds_toArray, List.set_cons_zero, List.set_cons_succ]
    refine wpAny_take (i := 10) (oi := ⟨some 2, _, _, _, _, _⟩) (v := .string S) rfl (by kernel_rfl) (by kernel_rfl) (by kernel_rfl) (fun _ _ _ h => h) (Or.inl ⟨by kernel_rfl, by intro w; go_simp⟩) ?_
    simp only [Act.put, List.setIfInBounds_toArray, List.set_cons_zero, List.set_cons_succ]
    refine wpAny_done (by kernel_rfl) ?_ _
    go_wp2
    go_ret
    exact ⟨rfl, Below.and (Below.and (drew_below w) (alloc_below _ _)) hb1⟩
   ·skip
    have hc2 := HCV.out (w.alloc (.cells #[.int .u8 (m : Int)] 5)).drew w.heap.size (byte1 w.drew m)
    go_simp
    refine hK _ _ ?_
    clear hK K
    (try simp only [Act.put, q1, q2, q3])
    clear hc2
    refine wpAny_ready (rs := [2]) (by kernel_rfl) (by simp) ?_
    refine AllReady.cons rfl (fun K hK => ?_) AllReady.nil
    go_simp
    refine (IH.out _).mono ?_
    rintro e w1 ⟨rfl, hb1⟩
    refine hK _ _ ?_
    clear hK K
    (try simp only [Act.put, q1, q2, q3])
    refine wpAny_take (i := 9) (oi := ⟨some 19, _, _, _, _, _⟩) (v := .string S) rfl (by kernel_rfl) (by kernel_rfl) (by kernel_rfl) (fun _ _ _ h => h) (Or.inl ⟨by kernel_rfl, by intro w; go_simp⟩) ?_
    simp only [Act.put, List.setIfInBounds_toArray, List.set_cons_zero, List.set_cons_succ]
    refine wpAny_take (i := 10) (oi := ⟨some 2, _, _, _, _, _⟩) (v := .string S) rfl (by kernel_rfl) (by kernel_rfl) (by kernel_rfl) (fun _ _ _ h => h) (Or.inl ⟨by kernel_rfl, by intro w; go_simp⟩) ?_
    simp only [Act.put, List.setIfInBounds_toArray, List.set_cons_zero, List.set_cons_succ]
    refine wpAny_done (by kernel_rfl) ?_ _
    go_wp2
    go_ret
    exact ⟨rfl, Below.and (Below.and (drew_below w) (alloc_below _ _)) hb1⟩
end Go.Proofs.YtkbklooocdfcfaaGreatDoor
