/- The document's own packing of a text: what it answers, for texts of at most a million bytes; no memory that was there is turned. -/
import Derived.Test.YtjpdmdplcecglaaRefs
namespace Go.Proofs.Ytjpdmdplcecglaa
open Go.RowKit
set_option linter.unusedVariables false
theorem own_set {w : World} {B n : Nat} {e : TypeId} {v : Value} {xs : List Value} (h : w.ownsRow B e 1 v n xs) {p : Addr} (hne : some p.block ≠ v.ownBlock) (u : Value) : (w.setCell p u).ownsRow B e 1 v n xs := by
  refine ⟨h.1, ?_⟩
  rcases h.2 with h0 | ⟨g, cap, cur, rfl, hg, hh, hr⟩
  · exact .inl h0
  · exact .inr ⟨g, cap, cur, rfl, hg, (heap_setCell_other w p g u (fun e => hne (by rw [← e]; rfl))).trans hh, hr⟩
/-- Eight bytes: those that there are, and 0. -/
def pad8 (L : List Nat) : List Nat := (List.range 8).map fun i => L.getD i 0
theorem pad8_length (L : List Nat) : (pad8 L).length = 8 := by simp [pad8]
theorem pad8_join (L : List Nat) (h : L.length ≤ 8) : joinN (pad8 L) = joinN L := by
  have e : pad8 L = [L.getD 0 0, L.getD 1 0, L.getD 2 0, L.getD 3 0, L.getD 4 0, L.getD 5 0, L.getD 6 0, L.getD 7 0] := rfl
  rw [e]
  match L, h with
  | [], _ => simp [joinN]
  | [_], _ => simp [joinN]
  | [_, _], _ => simp [joinN]
  | [_, _, _], _ => simp [joinN]
  | [_, _, _, _], _ => simp [joinN]
  | [_, _, _, _, _], _ => simp [joinN]
  | [_, _, _, _, _, _], _ => simp [joinN]
  | [_, _, _, _, _, _, _], _ => simp [joinN]
  | [_, _, _, _, _, _, _, _], _ => simp [joinN]
  | _ :: _ :: _ :: _ :: _ :: _ :: _ :: _ :: _ :: _, h => simp at h
theorem pad8_byts (L : List Nat) (h : Byts L) : Byts (pad8 L) := by
  intro b hb
  simp only [pad8, List.mem_map] at hb
  obtain ⟨i, _, rfl⟩ := hb
  rw [List.getD_eq_getElem?_getD]
  by_cases hi : i < L.length
  · rw [List.getElem?_eq_getElem hi]
    exact h _ (List.getElem_mem hi)
  · rw [List.getElem?_eq_none (by omega)]
    decide
theorem pad8_part (L : List Nat) (m : Nat) (h : L.length ≤ m) : part 8 (fun i => decide (i < m)) (fun i => bv (L.getD i 0)) (bv 0) = ((pad8 L).map bv).toArray := by
  apply Array.ext
  · simp [part, pad8]
  · intro i h1 h2
    simp only [part, Array.getElem_ofFn, List.getElem_toArray, pad8, List.getElem_map, List.getElem_range]
    by_cases hi : i < m
    · simp [hi]
    · have e : L.getD i 0 = 0 := by rw [List.getD_eq_getElem?_getD, List.getElem?_eq_none (by omega)]; rfl
      rw [e]
      simp [hi]
theorem mk8 (w : World) : (Instr.makeSlice 28 (.int .i64 8) (.int .i64 8)).run Try.prog w = .ok (.slice (some ⟨w.heap.size, 0, none⟩) 8 8) (w.alloc (.cells (Array.replicate 8 (bv 0)) 5)) := by kernel_rfl
theorem take0 (L : List Nat) (g : Nat) (w : World) (hL : L.length ≤ 8) (hb : Byts L) (hr : Row w g 5 ((pad8 L).map bv).toArray) :
    Calls Try.prog 32 #[.slice (some ⟨g, 0, none⟩) 8 8, .int .i64 0] w fun e w' => e = .returned (.int .u64 (joinN L)) ∧ w = w' := by
  have h := take_any (pad8 L) ⟨g, 0, none⟩ 8 8 0 w (pad8_length L) (by omega) (by omega) (pad8_byts L hb) (row_sl hr)
  rw [List.drop_zero, List.take_of_length_le (by rw [pad8_length]; omega), pad8_join L hL] at h
  exact h
set_option maxHeartbeats 1600000 in
theorem refPack_any (s : ByteArray) (w : World) (hs : s.size ≤ 1000000) :
    Calls Try.prog 27 #[.string s] w fun e w' => ∃ v, e = .returned v ∧ w'.ownsRow w.heap.size 22 1 v (1 + (s.size + 7) / 8) ((packN s).map wv) ∧ Below w.heap.size w w' := by
  obtain ⟨i0, hi, hz0, hz1, hz2⟩ := info_parts info22
  obtain ⟨N, hN⟩ : ∃ N, N = (s.size + 7) / 8 := ⟨_, rfl⟩
  have hN1 : 8 * N ≤ s.size + 7 := by omega
  have hN2 : s.size ≤ 8 * N := by omega
  have hcut : packN s = s.size :: cutTo (strN s) N := by unfold packN cutN; rw [strN_length, hN]
  rw [← hN, hcut]
  clear hN hcut
  have hlit := World.ownsRow_lit (base := w.heap.size) (e := 22) (size := 1) w #[wv s.size] 1 (Nat.le_refl _) (by decide) rfl
  have hmk := mk8
  go_enter Try.func27, Try.ntmps27
  go_wp2
  go_loopw [3, 4] (fun v i wr => ∃ (vv : Value) (k : Nat), vv = v ∧ k ≤ N ∧ i = .int .i64 ((8 * k : Nat) : Int) ∧ wr.ownsRow w.heap.size 22 1 v (1 + k) ((s.size :: cutTo (strN s) k).map wv) ∧ Below w.heap.size w wr) (fun _ i _ => 8 * N - (intOf i).toNat)
  case atStart => exact ⟨_, 0, rfl, by omega, rfl, hlit, alloc_below _ _⟩
  case round =>
    rename World => wr
    obtain ⟨vv, k, rfl, hk, rfl, hown, hb2⟩ := hrel
    obtain ⟨P, hP⟩ : ∃ P, P = 8 * k := ⟨_, rfl⟩
    rw [← hP]
    by_cases hlt : P < s.size
    · have hd : decide (P < s.size) = true := by simpa using hlt
      obtain ⟨L, hL⟩ : ∃ L, L = ((strN s).drop P).take 8 := ⟨_, rfl⟩
      have hLl : L.length = min 8 (s.size - P) := by rw [hL, List.length_take, List.length_drop, strN_length]
      have hL8 : L.length ≤ 8 := by omega
      have hLs : P + L.length ≤ s.size := by omega
      have hLe : L.length = 8 ∨ s.size ≤ P + L.length := by omega
      have hLb : Byts L := by rw [hL]; exact fun b h => strN_byts s b (List.mem_of_mem_drop (List.mem_of_mem_take h))
      have hLw : joinN L = wordAt (strN s) k := by rw [hL, hP]; rfl
      have hLj : ∀ j (h : j < L.length) (hjs : P + j < s.size), L.getD j 0 = s[P + j].toNat := by
        intro j h hjs
        rw [List.getD_eq_getElem?_getD, hL, List.getElem?_take_of_lt (by omega), List.getElem?_drop, List.getElem?_eq_getElem (by rw [strN_length]; exact hjs), Option.getD_some, strN_get]
      have hown2 := hown.alloc (.cells (Array.replicate 8 (bv 0)) 5)
      have hr2 := Row.new wr 5 (Array.replicate 8 (bv 0))
      have hb3 : Below w.heap.size w (wr.alloc (.cells (Array.replicate 8 (bv 0)) 5)) := Below.and hb2 (alloc_below _ _)
      have hz : Array.replicate 8 (bv 0) = part 8 (fun i => decide (i < 0)) (fun i => bv (L.getD i 0)) (bv 0) := (part_none 8 _ _ (by simp)).symm
      have hr2' := hr2
      rw [hz] at hr2'
      obtain ⟨M, hM⟩ : ∃ M, M = L.length := ⟨_, rfl⟩
      have hPk : P + 8 = 8 * (k + 1) := by omega
      rw [← hM] at hLl hL8 hLs hLe
      have HP := Lib.hid hP
      have HPK := Lib.hid hPk
      have HLJ := Lib.hid hLj
      have HLW := Lib.hid hLw
      have HM := Lib.hid hM
      clear hz hP hL hLj hLw hLl hM hPk
      go_wp2
      go_loopw [6] (fun i w2 => ∃ j : Nat, j ≤ M ∧ i = .int .i64 (j : Int) ∧ w2.ownsRow w.heap.size 22 1 vv (1 + k) ((s.size :: cutTo (strN s) k).map wv) ∧ Row w2 wr.heap.size 5 (part 8 (fun i => decide (i < j)) (fun i => bv (L.getD i 0)) (bv 0)) ∧ Below w.heap.size w w2) (fun i _ => 8 - (intOf i).toNat)
      case atStart => exact ⟨0, by omega, rfl, hown2, hr2', hb3⟩
      case round =>
        rename World => w2
        obtain ⟨j, hj, rfl, hownj, hrj, hbj⟩ := hrel
        clear hown2 hr2 hr2' hb3 hmk hlit
        have hne := own_ne hownj hrj (by decide)
        by_cases h8 : j < M
        · have hj8 : j < 8 := by omega
          have hjs : P + j < s.size := by omega
          have hc := hrj.cell j
          rw [part_get hj8] at hc
          have hf := hrj.free j
          simp only [decide_eq_true_eq, Nat.lt_irrefl, if_false] at hc
          have hset := hrj.set j (bv (L.getD j 0))
          rw [part_next 8 j (fun i => bv (L.getD i 0)) (bv 0), HLJ.out j (by rw [← HM.out]; exact h8) hjs] at hset
          have howns := own_set (p := ⟨wr.heap.size, j, none⟩) hownj hne (bv s[P + j].toNat)
          have hbs := hbj.setCell (p := ⟨wr.heap.size, j, none⟩) hb2.size (bv s[P + j].toNat)
          clear hne
          go_wp2
          go_roundw
          case rel => exact ⟨j + 1, by omega, by go_num, howns, hset, hbs⟩
          case measure => simp [intOf]; omega
        · have hjM : j = M := by omega
          subst hjM
          rw [pad8_part L _ (by rw [← HM.out]; exact Nat.le_refl _)] at hrj
          have ht := take0 L wr.heap.size w2 (by rw [← HM.out]; exact hL8) hLb hrj
          rw [HLW.out] at ht
          have HT := Lib.hid ht
          clear ht hrj hne
          have hown3 := hownj.alloc (.cells #[wv (wordAt (strN s) k)] 22)
          have h63 : 1 + k + 1 ≤ maxLen := by have := HP.out; unfold maxLen; omega
          have hby : (1 + k + 1) * 8 ≤ 140737488355328 := by have := HP.out; omega
          have hbs : w.heap.size ≤ (w2.alloc (.cells #[wv (wordAt (strN s) k)] 22)).heap.size := by have := hbj.size; simp; omega
          have hsn : (s.size :: cutTo (strN s) k).map wv ++ [wv (wordAt (strN s) k)] = (s.size :: cutTo (strN s) (k + 1)).map wv := by rw [List.map_cons, List.cons_append, cutTo_snoc, List.map_cons]
          have HSN := Lib.hid hsn
          clear hsn
          have hkN : k + 1 ≤ N := by have := HP.out; omega
          by_cases h8' : j = 8
          · subst h8'
            go_wp2_with fail
            refine HT.out.mono ?_
            rintro e w3 ⟨rfl, rfl⟩
            go_wp2_with (at_builtin; refine wpList_append_own _ rfl (.tmp 38) (.tmp 41) 37 rfl w.heap.size 22 i0 (.int .u64 0) 1 8 Try.underlying37 hi hz0 hz1 hz2 rfl (by decide) _ (1 + k) _ rfl hown3 ⟨w2.heap.size, 0, none⟩ 1 1 [wv (wordAt (strN s) k)] rfl rfl (cell_one_new _ _ _) (wv_ones [wordAt (strN s) k]) h63 hby hbs ?_; intro v4 w4 hown4 hgrow hnil)
            have hb4 : Below w.heap.size w w4 := (hbj.alloc hbj.size _).grown hgrow hbs (own_from hown3)
            rw [HSN.out] at hown4
            clear hgrow hown3 hownj hnil
            go_roundw
            case rel => exact ⟨v4, k + 1, rfl, hkN, by rw [← HPK.out]; go_num, hown4, hb4⟩
            case measure => simp [intOf]; omega
          · have hend : s.size ≤ P + j := by omega
            have hj8 : j < 8 := by omega
            go_wp2_with fail
            refine HT.out.mono ?_
            rintro e w3 ⟨rfl, rfl⟩
            go_wp2_with (at_builtin; refine wpList_append_own _ rfl (.tmp 38) (.tmp 41) 37 rfl w.heap.size 22 i0 (.int .u64 0) 1 8 Try.underlying37 hi hz0 hz1 hz2 rfl (by decide) _ (1 + k) _ rfl hown3 ⟨w2.heap.size, 0, none⟩ 1 1 [wv (wordAt (strN s) k)] rfl rfl (cell_one_new _ _ _) (wv_ones [wordAt (strN s) k]) h63 hby hbs ?_; intro v4 w4 hown4 hgrow hnil)
            have hb4 : Below w.heap.size w w4 := (hbj.alloc hbj.size _).grown hgrow hbs (own_from hown3)
            rw [HSN.out] at hown4
            clear hgrow hown3 hownj hnil
            go_roundw
            case rel => exact ⟨v4, k + 1, rfl, hkN, by rw [← HPK.out]; go_num, hown4, hb4⟩
            case measure => simp [intOf]; omega
    · have hkN : k = N := by omega
      subst hkN
      go_wp2
      go_ret
      exact ⟨_, rfl, hown, hb2⟩
end Go.Proofs.Ytjpdmdplcecglaa
