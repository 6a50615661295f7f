/- FastStores: the law is true of any base, any node, any change that is asked for; conditions: numbers of the width. -/
import Derived.Test.YtbadlmicbbjkaaaN9Made
import Derived.Test.YtbadlmicbbjkaaaN9Known
namespace Go.Proofs.Ytbadlmicbbjkaaa
open Go.RowKit
set_option linter.unusedVariables false
set_option linter.unusedSimpArgs false
theorem wholeL_len (base : Int) (n : Nd) (l : List (Int × Int)) : (wholeL base n l).length = l.length + 2 := by
  simp [wholeL]
theorem refE_rng (b : Int) (n : Nd) (l : List Int) : 0 ≤ refE b n l ∧ refE b n l ≤ 7 := by
  unfold refE
  split
  · split <;> omega
  · omega
theorem askP_ok (base : Int) (n : Nd) (d key ptr : Int) : (askP base n d key ptr).1.length ≤ 100 ∧ 0 ≤ (askP base n d key ptr).2 ∧ (askP base n d key ptr).2 ≤ 7 := by
  have h8 := n.len_le
  have h1 := refE_rng base n [ptr]
  have h0 := refE_rng base n []
  unfold askP
  split
  · unfold insP
    split
    · exact ⟨Nat.zero_le _, h1⟩
    · split
      · simp
      · split
        · simp
        · have hm := mkRoom_len base n (n.at key) (by omega)
          refine ⟨?_, Int.le_refl _, by omega⟩
          show (insL base n key ptr).length ≤ 100
          unfold insL
          rw [wholeL_len, List.length_append]
          simp
          omega
  · split
    · unfold delP
      split
      · exact ⟨Nat.zero_le _, h0⟩
      · split
        · simp
        · rename_i p hp
          have := find_lt hp
          refine ⟨?_, Int.le_refl _, by omega⟩
          show (wholeL base n _).length ≤ 100
          rw [wholeL_len, List.length_cons, dnL_len]
          omega
    · split
      · unfold repP
        split
        · split
          · simp
          · refine ⟨?_, Int.le_refl _, by omega⟩
            show (wholeL base n _).length ≤ 100
            rw [wholeL_len, dnL_len]
            omega
        · simp
      · split
        · unfold swapP
          split
          · exact ⟨Nat.zero_le _, h1⟩
          · split
            · simp
            · refine ⟨?_, Int.le_refl _, by omega⟩
              show (wholeL base n _).length ≤ 100
              rw [wholeL_len]
              simp
        · split
          · unfold cutP
            split
            · exact ⟨Nat.zero_le _, h0⟩
            · split
              · simp
              · refine ⟨?_, Int.le_refl _, by omega⟩
                show (wholeL base n _).length ≤ 100
                rw [wholeL_len]
                simp
          · unfold linkP
            split
            · exact ⟨Nat.zero_le _, h0⟩
            · refine ⟨?_, Int.le_refl _, by omega⟩
              show (wholeL base n _).length ≤ 100
              rw [wholeL_len]
              simp
theorem psame_self {w : World} {v v' : Value} {l : List (Int × Int)} (h : EntAt w v l) (h' : EntAt w v' l) (hl : l.length ≤ 100) : Calls Try.prog 11 #[v, v'] w fun e w' => e = .returned (.bool true) ∧ Below w.heap.size w w' :=
  (psame_any h h' (by omega) (by omega)).mono (by rintro e w' ⟨rfl, hb⟩; exact ⟨by simp, hb⟩)
set_option maxRecDepth 100000 in
set_option maxHeartbeats 2000000 in
theorem lawStores {base : Int} (hb : 0 ≤ base) (n : Nd) (k key ptr : Int) (w : World) : Calls Try.prog 3 #[.int .u64 base, n.V, .agg #[.int .i64 k, .int .u64 key, .int .u64 ptr]] w fun e w' => e = .returned (.bool true) ∧ Below w.heap.size w w' := by
  have r0 := Row.new w 27 n.cl.toArray
  have r1 := r0.below (alloc_low (w.alloc (.cells n.cl.toArray 27)) (.cells #[.int .i64 k, .int .u64 key, .int .u64 ptr] 29)) r0.lt
  have ra := Row.new (w.alloc (.cells n.cl.toArray 27)) 29 #[.int .i64 k, .int .u64 key, .int .u64 ptr]
  rw [show (w.alloc (.cells n.cl.toArray 27)).heap.size = w.heap.size + 1 by simp] at ra
  have hb0 := low_and (alloc_low w (.cells n.cl.toArray 27)) (alloc_low (w.alloc (.cells n.cl.toArray 27)) (.cells #[.int .i64 k, .int .u64 key, .int .u64 ptr] 29))
  obtain ⟨Wa, hWa⟩ : ∃ Wa, Wa = (w.alloc (.cells n.cl.toArray 27)).alloc (.cells #[.int .i64 k, .int .u64 key, .int .u64 ptr] 29) := ⟨_, rfl⟩
  rw [← hWa] at r1 ra hb0
  have HRR := Lib.hid (fun W' (hb : Below Wa.heap.size Wa W') => (show NdAt W' w.heap.size n from r1.below hb r1.lt))
  have HRA := Lib.hid (fun W' (hb : Below Wa.heap.size Wa W') => (show Row W' (w.heap.size + 1) 29 #[.int .i64 k, .int .u64 key, .int .u64 ptr] from ra.below hb ra.lt))
  have a0 : Wa.cell? ⟨w.heap.size + 1, 0, none⟩ = some (.int .i64 k) := ra.cell 0
  have a1 : Wa.cell? ⟨w.heap.size + 1, 1, none⟩ = some (.int .u64 key) := ra.cell 1
  have a2 : Wa.cell? ⟨w.heap.size + 1, 2, none⟩ = some (.int .u64 ptr) := ra.cell 2
  have HB0 := Lib.hid hb0
  have HWa := Lib.hid hWa
  have hr0 := Below.refl Wa.heap.size Wa
  have HK := Lib.hid (fun W' => n9known_any W')
  have HM0 := fun W' => made_any hb n k key ptr W'
  have HW0 := fun W' => want_any hb n k key ptr W'
  obtain ⟨hlen, he0, he7⟩ := askP_ok base n (kd9 k) key ptr
  generalize askP base n (kd9 k) key ptr = R at HM0 HW0 hlen he0 he7
  obtain ⟨l, E⟩ := R
  have hlen : l.length ≤ 100 := hlen
  have he0 : 0 ≤ E := he0
  have he7 : E ≤ 7 := he7
  have hwE : IntKind.i64.wrap E = E := by rw [IntKind.wrap_i64]; omega
  have HM := Lib.hid (fun W' => (show Calls Try.prog 9 #[.int .u64 base, n.V, .agg #[.int .i64 k, .int .u64 key, .int .u64 ptr]] W' (fun e w' => (∃ v, e = .returned (.tuple #[v, .int .i64 E]) ∧ w'.ownsRow W'.heap.size 45 2 v l.length (flatE l)) ∧ Below W'.heap.size W' w') from HM0 W'))
  have HW := Lib.hid (fun W' => (show Calls Try.prog 10 #[.int .u64 base, n.V, .agg #[.int .i64 k, .int .u64 key, .int .u64 ptr]] W' (fun e w' => (∃ v, e = .returned (.tuple #[v, .int .i64 E]) ∧ w'.ownsRow W'.heap.size 45 2 v l.length (flatE l)) ∧ Below W'.heap.size W' w') from HW0 W'))
  clear hWa hb0 r0 r1 ra HM0 HW0
  go_enter Try.func3, Try.ntmps3
  go_wp2_with (first
    | (rw [← HWa.out]; go_simp)
    | ((with_reducible refine show_load ?_); refine wpList_load_mid rfl 27 _ rfl w.heap.size 0 rfl n.cl _ (ndR (HRR.out _ (by assumption))) Try.underlying27 rfl ndI ?_)
    | (go_at_call 9; refine (HM.out _).mono ?_; rintro e w1 ⟨⟨v1, rfl, ho1⟩, h1⟩; have HO1 := Lib.hid ho1; have h1 := low_and hr0 h1; have b0 := (HRA.out _ h1).cell 0; have b1 := (HRA.out _ h1).cell 1; have b2 := (HRA.out _ h1).cell 2; simp only [List.getElem?_toArray, List.getElem?_cons_zero, List.getElem?_cons_succ] at b0 b1 b2)
    | (go_at_call 10; refine (HW.out _).mono ?_; rintro e w2 ⟨⟨v2, rfl, ho2⟩, h2⟩; have HE1 := Lib.hid (ent_ownG (ownS_low HO1.out h2)); have HE2 := Lib.hid (ent_ownG ho2); have g2 := low_and h1 h2)
    | (go_at_call 11; refine (psame_self HE1.out HE2.out hlen).mono ?_; rintro e w3 ⟨rfl, h3⟩; have g3 := low_and g2 h3)
    | (go_at_call 12; refine (HK.out _).mono ?_; rintro e w4 ⟨rfl, h4⟩; have g4 := low_and g3 h4))
  go_ret
  exact ⟨rfl, low_and HB0.out g4⟩
end Go.Proofs.Ytbadlmicbbjkaaa
