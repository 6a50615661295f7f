/- Texts of this claim, packed: WLists, WRefs, WRefPack, WUnp, WCutB, WUnpack, WRefUnp. -/
import Derived.Test.YtnjecjcnkmgjmaaDoorPk03
import Derived.Lib.BufferRead
/- Words of bytes and bytes of words, as lists and as the program's and the document's functions make them: for lists of at most a million items. -/
namespace Go.Proofs.YtnjecjcnkmgjmaaDoor
open Go.RowKit
set_option linter.unusedVariables false
/-- The bytes of words; of the first k of them. -/
def spr (l : List Nat) : List Nat := l.flatMap bytesN
def sprTo (l : List Nat) (k : Nat) : List Nat := spr (l.take k)
def Wrds (l : List Nat) : Prop := ∀ n ∈ l, n < 18446744073709551616
theorem spr_length : ∀ l : List Nat, (spr l).length = 8 * l.length
  | [] => rfl
  | n :: t => by
    have h := spr_length t
    simp only [spr, List.flatMap_cons, List.length_append, bytesN_length, List.length_cons] at h ⊢
    omega
theorem spr_cons (n : Nat) (t : List Nat) : spr (n :: t) = bytesN n ++ spr t := by simp [spr]
theorem spr_append (a b : List Nat) : spr (a ++ b) = spr a ++ spr b := by simp [spr, List.flatMap_append]
theorem spr_byts (l : List Nat) : Byts (spr l) := by
  intro b hb
  simp only [spr, List.mem_flatMap] at hb
  obtain ⟨n, _, hn⟩ := hb
  exact bytesN_byts n b hn
theorem sprTo_zero (l : List Nat) : sprTo l 0 = [] := rfl
theorem sprTo_all (l : List Nat) : sprTo l l.length = spr l := by simp [sprTo]
theorem sprTo_succ (l : List Nat) (k : Nat) (h : k < l.length) : sprTo l (k + 1) = sprTo l k ++ bytesN l[k] := by
  unfold sprTo
  rw [List.take_succ_eq_append_getElem h, spr_append]
  simp [spr]
theorem sprTo_snoc (l : List Nat) (k : Nat) (h : k < l.length) : (sprTo l k).map bv ++ (bytesN l[k]).map bv = (sprTo l (k + 1)).map bv := by rw [sprTo_succ l k h, List.map_append]
theorem sprTo_length (l : List Nat) (k : Nat) (h : k ≤ l.length) : (sprTo l k).length = 8 * k := by
  unfold sprTo
  rw [spr_length, List.length_take, Nat.min_eq_left h]
theorem spr_drop (l : List Nat) : ∀ j, (spr l).drop (8 * j) = spr (l.drop j) := by
  induction l with
  | nil => intro j; simp [spr]
  | cons n t ih =>
    intro j
    cases j with
    | zero => simp
    | succ j =>
      rw [spr_cons, List.drop_succ_cons, ← ih j, List.drop_append, List.drop_of_length_le (by rw [bytesN_length]; omega), List.nil_append, bytesN_length]
      congr 1
theorem spr_take8 (l : List Nat) (j : Nat) (h : j < l.length) : ((spr l).drop (8 * j)).take 8 = bytesN l[j] := by
  rw [spr_drop, List.drop_eq_getElem_cons h, spr_cons, List.take_append_of_le_length (by rw [bytesN_length]; omega), List.take_of_length_le (by rw [bytesN_length]; omega)]
theorem cut_spr (l : List Nat) (hl : Wrds l) : cutN (spr l) = l := by
  unfold cutN
  rw [spr_length, show (8 * l.length + 7) / 8 = l.length from by omega]
  apply List.ext_getElem
  · rw [cutTo_length]
  · intro i h1 h2
    simp only [cutTo, List.getElem_map, List.getElem_range, wordAt]
    rw [spr_take8 l i h2, bytesN_join _ (hl _ (List.getElem_mem h2))]
theorem join_bytes : ∀ b : List Nat, b.length = 8 → Byts b → bytesN (joinN b) = b := by
  intro b hb h
  match b, hb with
  | [b0, b1, b2, b3, b4, b5, b6, b7], _ =>
    have h0 := h b0 (by simp); have h1 := h b1 (by simp); have h2 := h b2 (by simp); have h3 := h b3 (by simp)
    have h4 := h b4 (by simp); have h5 := h b5 (by simp); have h6 := h b6 (by simp); have h7 := h b7 (by simp)
    have e : ∀ n, bytesN n = [byt n 0, byt n 1, byt n 2, byt n 3, byt n 4, byt n 5, byt n 6, byt n 7] := fun _ => rfl
    rw [e]
    simp only [joinN, byt, up]
    simp only [List.cons.injEq, and_true]
    refine ⟨by omega, by omega, by omega, by omega, by omega, by omega, by omega, by omega⟩
theorem spr_cutTo (b : List Nat) (hb : Byts b) : ∀ k, 8 * k ≤ b.length → spr (cutTo b k) = b.take (8 * k)
  | 0, _ => by simp [cutTo, spr]
  | k + 1, h => by
    rw [cutTo_succ, spr_append, spr_cutTo b hb k (by omega)]
    have e : spr [wordAt b k] = bytesN (wordAt b k) := by simp [spr]
    rw [e]
    unfold wordAt
    rw [join_bytes _ (by rw [List.length_take, List.length_drop]; omega) (fun x hx => hb x (List.mem_of_mem_drop (List.mem_of_mem_take hx)))]
    rw [show 8 * (k + 1) = 8 * k + 8 from by omega, List.take_add]
theorem spr_cut (b : List Nat) (hb : Byts b) (h : b.length % 8 = 0) : spr (cutN b) = b := by
  unfold cutN
  rw [show (b.length + 7) / 8 = b.length / 8 from by omega, spr_cutTo b hb _ (by omega), List.take_of_length_le (by omega)]
theorem cutN_wrds (b : List Nat) (hb : Byts b) : Wrds (cutN b) := by
  intro n hn
  simp only [cutN, cutTo, List.mem_map] at hn
  obtain ⟨i, _, rfl⟩ := hn
  have h := joinN_lt ((b.drop (8 * i)).take 8) (fun x hx => hb x (List.mem_of_mem_drop (List.mem_of_mem_take hx)))
  have h8 : ((b.drop (8 * i)).take 8).length ≤ 8 := List.length_take_le _ _
  have := pow_le8 h8
  unfold wordAt
  omega

/-- The text of bytes. -/
def strOf (l : List Nat) : ByteArray := ⟨(l.map UInt8.ofNat).toArray⟩
theorem strOf_size (l : List Nat) : (strOf l).size = l.length := by
  show (l.map UInt8.ofNat).toArray.size = _
  simp
theorem strN_strOf (l : List Nat) (h : Byts l) : strN (strOf l) = l := by
  unfold strN strOf
  simp only [List.map_map]
  conv => rhs; rw [← List.map_id l]
  apply List.map_congr_left
  intro b hb
  have := h b hb
  simp
  omega
theorem push_fold : ∀ (ns : List Int) (r : ByteArray), ns.foldl (fun r n => r.push (UInt8.ofNat n.toNat)) r = ⟨(r.data.toList ++ ns.map fun n => UInt8.ofNat n.toNat).toArray⟩
  | [], r => by
    simp
  | n :: t, r => by
    rw [List.foldl_cons, push_fold t]
    congr 2
    show (r.data.push (UInt8.ofNat n.toNat)).toList ++ _ = _
    simp
theorem conv_sl {w : World} {a : Addr} {l : List Nat} (n c : Nat) (hn : l.length = n) (hs : Sl w (some a) (l.map bv)) : (convert 37 9 (.slice (some a) n c)).run Tryd.prog w = .ok (.string (strOf l)) w := by
  have e1 : ((l.map fun b : Nat => (b : Int)).map (Value.int .u8)) = l.map bv := by
    rw [List.map_map]
    rfl
  have h := run_loadCells_list (P := Tryd.prog) w a (l.map bv) (fun j v hv => by
    obtain ⟨a', e, hc⟩ := hs j v hv
    cases e
    exact hc)
  rw [List.length_map, hn, ← e1] at h
  rw [run_convert_bytes_string w 37 9 5 (some a) n c Tryd.underlying37 Tryd.underlying5 Tryd.underlying9, run_bytesToString w a n c _ h, push_fold]
  congr 3
  show (([] : List UInt8) ++ _).toArray = _
  rw [List.nil_append, List.map_map]
  rfl
theorem conv_nil (w : World) (c : Nat) : (convert 37 9 (.slice none 0 c)).run Tryd.prog w = .ok (.string (strOf [])) w := Lib.run_convert_nil_bytes w 37 9 5 c Tryd.underlying37 Tryd.underlying5 Tryd.underlying9
theorem conv_any {w : World} {A : Option Addr} {l : List Nat} (n c : Nat) (hn : l.length = n) (hs : Sl w A (l.map bv)) (h0 : A = none → n = 0) : (convert 37 9 (.slice A n c)).run Tryd.prog w = .ok (.string (strOf l)) w := by
  rcases A with _ | a
  · have := h0 rfl
    subst this
    obtain rfl : l = [] := List.eq_nil_of_length_eq_zero hn
    exact conv_nil w c
  · exact conv_sl n c hn hs
end Go.Proofs.YtnjecjcnkmgjmaaDoor
/- The document's own lists of words and bytes: what they answer, for lists of at most a million items; no memory that was there is turned. -/
namespace Go.Proofs.YtnjecjcnkmgjmaaDoor
open Go.RowKit
set_option linter.unusedVariables false
theorem bytesTo_snoc (l : List Nat) (k n j : Nat) (h : j < 8) : ((sprTo l k).map bv ++ ((bytesN n).take j).map bv) ++ [bv (byt n j)] = (sprTo l k).map bv ++ ((bytesN n).take (j + 1)).map bv := by
  have hl : j < (bytesN n).length := by rw [bytesN_length]; exact h
  rw [List.take_succ_eq_append_getElem hl, List.map_append, List.append_assoc]
  have e : (bytesN n)[j] = byt n j := by simp [bytesN]
  rw [e]
  rfl
set_option maxRecDepth 100000 in
set_option maxHeartbeats 1600000 in
theorem refWBytes_any (l : List Nat) (A : Option Addr) (len cap : Nat) (w : World) (hlen : l.length = len) (hl : len ≤ 1000000) (hwd : Wrds l) (hs : Sl w A (l.map wv)) :
    Calls Tryd.prog 64 #[.slice A len cap] w fun e w' => ∃ v, e = .returned v ∧ w'.ownsRow w.heap.size 5 1 v (8 * len) ((spr l).map bv) ∧ Below w.heap.size w w' := by
  obtain ⟨i0, hi, hz0, hz1, hz2⟩ := info_parts info5
  have hall : spr l = sprTo l len := by rw [← hlen, sprTo_all]
  rw [hall]
  clear hall
  have hlen1 : l.length ≤ len := by omega
  have hlen2 : len ≤ l.length := by omega
  clear hlen
  go_enter Tryd.func64, Tryd.ntmps64
  go_wp2
  go_loopw [3, 4] (fun v i wr => ∃ k : Nat, k ≤ len ∧ i = .int .i64 (k : Int) ∧ wr.ownsRow w.heap.size 5 1 v (8 * k) ((sprTo l k).map bv) ∧ Below w.heap.size w wr) (fun _ i _ => len - (intOf i).toNat)
  case atStart => exact ⟨0, by omega, rfl, World.ownsRow_nil _ _ _ _, Below.refl _ _⟩
  case round =>

    obtain ⟨k, hk, rfl, hown, hb2⟩ := hrel
    by_cases hlt : k < len
    · obtain ⟨a, rfl, hc⟩ := (hs.below hb2).at_ (i := k) (by simp; omega)
      rw [List.getElem_map] at hc
      have hsn := sprTo_snoc l k (by omega)
      have hnw := hwd _ (List.getElem_mem (show k < l.length by omega))
      obtain ⟨n, hn⟩ : ∃ n, n = l[k]'(by omega) := ⟨_, rfl⟩
      rw [← hn] at hc hsn hnw
      clear hn
      have HS := Lib.hid hsn
      clear hsn
      unfold wv at hc
      have hfit := bytes8_fit n
      have hold := bytes8_old n
      have hone := bytes8_one n
      obtain ⟨B, hB⟩ : ∃ B, B = bytes8 n := ⟨_, rfl⟩
      rw [← hB] at hfit hold hone
      have HB := Lib.hid hB
      clear hB
      go_wp2_with fail
      refine (refPut_any n _ hnw).mono ?_
      rintro e w3 ⟨rfl, hb3⟩
      rw [← HB.out]
      have hr3 := Row.new w3 107 (Array.replicate 8 (bv 0))
      have hbx : Below w3.heap.size w3 ((w3.alloc (.cells (Array.replicate 8 (bv 0)) 107)).setRow w3.heap.size B) := below_setRow (alloc_below _ _) (Nat.le_refl _) _
      have hown2 := own_keep (own_keep hown hb3) hbx
      have hbW := Below.and hb2 (Below.and hb3 hbx)
      have hrB := hr3.setRow B
      have hx0 : (sprTo l k).map bv = (sprTo l k).map bv ++ ((bytesN n).take 0).map bv := by simp
      rw [hx0] at hown2
      clear hx0
      go_wp2_with (first | (refine wpList_store_row rfl 107 _ _ rfl w3.heap.size B rfl rfl 107 _ hr3 hfit hold hone ?_))
      obtain ⟨gW, hgW⟩ : ∃ g, g = w3.heap.size := ⟨_, rfl⟩
      go_loopw [3, 6] (fun v i wr => ∃ j : Nat, j ≤ 8 ∧ i = .int .i64 (j : Int) ∧ wr.ownsRow w.heap.size 5 1 v (8 * k + j) ((sprTo l k).map bv ++ ((bytesN n).take j).map bv) ∧ Row wr w3.heap.size 107 B ∧ Below w.heap.size w wr) (fun _ i _ => 8 - (intOf i).toNat)
      case atStart => exact ⟨0, by omega, rfl, hown2, hrB, hbW⟩
      case round =>
        rename World => wr2
        obtain ⟨j, hj, rfl, hownj, hrj, hbj⟩ := hrel
        clear hown2 hrB hbW hr3 hfit hold hone hbx hgW
        by_cases h8 : j < 8
        · have hcj := hrj.cell j
          rw [HB.out, bytes8_get n j h8] at hcj
          have hown3 := hownj.alloc (.cells #[bv (byt n j)] 5)
          have hrj2 := hrj.alloc (.cells #[bv (byt n j)] 5)
          have hne := own_ne hown3 hrj2 (by decide)
          have hsnj := bytesTo_snoc l k n j h8
          obtain ⟨q, hq⟩ : ∃ q, q = byt n j := ⟨_, rfl⟩
          rw [← hq] at hcj hown3 hrj2 hsnj
          unfold bv at hcj
          have HSJ := Lib.hid hsnj
          clear hq hsnj
          have h63 : 8 * k + j + 1 ≤ maxLen := by unfold maxLen; omega
          have hby : (8 * k + j + 1) * 1 ≤ 140737488355328 := by omega
          have hbs : w.heap.size ≤ (wr2.alloc (.cells #[bv q] 5)).heap.size := by have := hbj.size; simp; omega
          go_wp2_with (at_builtin; refine wpList_append_own _ rfl (.tmp 22) (.tmp 26) 37 rfl w.heap.size 5 i0 (.int .u8 0) 1 1 Tryd.underlying37 hi hz0 hz1 hz2 rfl (by decide) _ (8 * k + j) _ rfl hown3 ⟨wr2.heap.size, 0, none⟩ 1 1 [bv q] rfl rfl (cell_one_new _ _ _) (bv_ones [q]) h63 hby hbs ?_; intro v4 w4 hown4 hgrow hnil)
          have hb4 : Below w.heap.size w w4 := (hbj.alloc hbj.size _).grown hgrow hbs (own_from hown3)
          have hr4 := hrj2.grown hgrow hne
          rw [HSJ.out] at hown4
          clear hgrow hown3 hownj hnil hrj hrj2 hne
          go_roundw
          case rel => exact ⟨j + 1, by omega, by go_num, hown4, hr4, hb4⟩
          case measure => simp [intOf]; omega
        · have hj8 : j = 8 := by omega
          subst hj8
          rw [List.take_of_length_le (by rw [bytesN_length]; omega), HS.out] at hownj
          go_wp2
          go_roundw
          case rel => exact ⟨k + 1, by omega, by go_num, hownj, hbj⟩
          case measure => simp [intOf]; omega
    · have hkN : k = len := by omega
      subst hkN
      go_wp2
      go_ret
      exact ⟨_, rfl, hown, hb2⟩
end Go.Proofs.YtnjecjcnkmgjmaaDoor
/- The document's own packing of a text: what it answers, for texts of at most a million bytes; no memory that was there is turned. -/
namespace Go.Proofs.YtnjecjcnkmgjmaaDoor
open Go.RowKit
set_option linter.unusedVariables false
/-- Eight bytes: those that there are, and 0. -/
def pad8 (L : List Nat) : List Nat := (List.range 8).map fun i => L.getD i 0
theorem pad8_length (L : List Nat) : (pad8 L).length = 8 := by simp [pad8]
theorem pad8_join (L : List Nat) (h : L.length ≤ 8) : joinN (pad8 L) = joinN L := by
  have e : pad8 L = [L.getD 0 0, L.getD 1 0, L.getD 2 0, L.getD 3 0, L.getD 4 0, L.getD 5 0, L.getD 6 0, L.getD 7 0] := rfl
  rw [e]
  match L, h with
  | [], _ => simp [joinN]
  | [_], _ => simp [joinN]
  | [_, _], _ => simp [joinN]
  | [_, _, _], _ => simp [joinN]
  | [_, _, _, _], _ => simp [joinN]
  | [_, _, _, _, _], _ => simp [joinN]
  | [_, _, _, _, _, _], _ => simp [joinN]
  | [_, _, _, _, _, _, _], _ => simp [joinN]
  | [_, _, _, _, _, _, _, _], _ => simp [joinN]
  | _ :: _ :: _ :: _ :: _ :: _ :: _ :: _ :: _ :: _, h => simp at h
theorem pad8_byts (L : List Nat) (h : Byts L) : Byts (pad8 L) := by
  intro b hb
  simp only [pad8, List.mem_map] at hb
  obtain ⟨i, _, rfl⟩ := hb
  rw [List.getD_eq_getElem?_getD]
  by_cases hi : i < L.length
  · rw [List.getElem?_eq_getElem hi]
    exact h _ (List.getElem_mem hi)
  · rw [List.getElem?_eq_none (by omega)]
    decide
theorem pad8_part (L : List Nat) (m : Nat) (h : L.length ≤ m) : part 8 (fun i => decide (i < m)) (fun i => bv (L.getD i 0)) (bv 0) = ((pad8 L).map bv).toArray := by
  apply Array.ext
  · simp [part, pad8]
  · intro i h1 h2
    simp only [part, Array.getElem_ofFn, List.getElem_toArray, pad8, List.getElem_map, List.getElem_range]
    by_cases hi : i < m
    · simp [hi]
    · have e : L.getD i 0 = 0 := by rw [List.getD_eq_getElem?_getD, List.getElem?_eq_none (by omega)]; rfl
      rw [e]
      simp [hi]
theorem mk8 (w : World) : (Instr.makeSlice 37 (.int .i64 8) (.int .i64 8)).run Tryd.prog w = .ok (.slice (some ⟨w.heap.size, 0, none⟩) 8 8) (w.alloc (.cells (Array.replicate 8 (bv 0)) 5)) := by kernel_rfl
theorem take0 (L : List Nat) (g : Nat) (w : World) (hL : L.length ≤ 8) (hb : Byts L) (hr : Row w g 5 ((pad8 L).map bv).toArray) :
    Calls Tryd.prog 26 #[.slice (some ⟨g, 0, none⟩) 8 8, .int .i64 0] w fun e w' => e = .returned (.int .u64 (joinN L)) ∧ w = w' := by
  have h := take_any (pad8 L) ⟨g, 0, none⟩ 8 8 0 w (pad8_length L) (by omega) (by omega) (pad8_byts L hb) (row_sl hr)
  rw [List.drop_zero, List.take_of_length_le (by rw [pad8_length]; omega), pad8_join L hL] at h
  exact h
set_option maxRecDepth 100000 in
set_option maxHeartbeats 1600000 in
theorem refPack_any (s : ByteArray) (w : World) (hs : s.size ≤ 1000000) :
    Calls Tryd.prog 36 #[.string s] w fun e w' => ∃ v, e = .returned v ∧ w'.ownsRow w.heap.size 22 1 v (1 + (s.size + 7) / 8) ((packN s).map wv) ∧ Below w.heap.size w w' := by
  obtain ⟨i0, hi, hz0, hz1, hz2⟩ := info_parts info22
  obtain ⟨N, hN⟩ : ∃ N, N = (s.size + 7) / 8 := ⟨_, rfl⟩
  have hN1 : 8 * N ≤ s.size + 7 := by omega
  have hN2 : s.size ≤ 8 * N := by omega
  have hcut : packN s = s.size :: cutTo (strN s) N := by unfold packN cutN; rw [strN_length, hN]
  rw [← hN, hcut]
  clear hN hcut
  have hlit := World.ownsRow_lit (base := w.heap.size) (e := 22) (size := 1) w #[wv s.size] 1 (Nat.le_refl _) (by decide) rfl
  have hmk := mk8
  go_enter Tryd.func36, Tryd.ntmps36
  go_wp2
  go_loopw [3, 4] (fun v i wr => ∃ (vv : Value) (k : Nat), vv = v ∧ k ≤ N ∧ i = .int .i64 ((8 * k : Nat) : Int) ∧ wr.ownsRow w.heap.size 22 1 v (1 + k) ((s.size :: cutTo (strN s) k).map wv) ∧ Below w.heap.size w wr) (fun _ i _ => 8 * N - (intOf i).toNat)
  case atStart => exact ⟨_, 0, rfl, by omega, rfl, hlit, alloc_below _ _⟩
  case round =>
    rename World => wr
    obtain ⟨vv, k, rfl, hk, rfl, hown, hb2⟩ := hrel
    obtain ⟨P, hP⟩ : ∃ P, P = 8 * k := ⟨_, rfl⟩
    rw [← hP]
    by_cases hlt : P < s.size
    · have hd : decide (P < s.size) = true := by simpa using hlt
      obtain ⟨L, hL⟩ : ∃ L, L = ((strN s).drop P).take 8 := ⟨_, rfl⟩
      have hLl : L.length = min 8 (s.size - P) := by rw [hL, List.length_take, List.length_drop, strN_length]
      have hL8 : L.length ≤ 8 := by omega
      have hLs : P + L.length ≤ s.size := by omega
      have hLe : L.length = 8 ∨ s.size ≤ P + L.length := by omega
      have hLb : Byts L := by rw [hL]; exact fun b h => strN_byts s b (List.mem_of_mem_drop (List.mem_of_mem_take h))
      have hLw : joinN L = wordAt (strN s) k := by rw [hL, hP]; rfl
      have hLj : ∀ j (h : j < L.length) (hjs : P + j < s.size), L.getD j 0 = s[P + j].toNat := by
        intro j h hjs
        rw [List.getD_eq_getElem?_getD, hL, List.getElem?_take_of_lt (by omega), List.getElem?_drop, List.getElem?_eq_getElem (by rw [strN_length]; exact hjs), Option.getD_some, strN_get]
      have hown2 := hown.alloc (.cells (Array.replicate 8 (bv 0)) 5)
      have hr2 := Row.new wr 5 (Array.replicate 8 (bv 0))
      have hb3 : Below w.heap.size w (wr.alloc (.cells (Array.replicate 8 (bv 0)) 5)) := Below.and hb2 (alloc_below _ _)
      have hz : Array.replicate 8 (bv 0) = part 8 (fun i => decide (i < 0)) (fun i => bv (L.getD i 0)) (bv 0) := (part_none 8 _ _ (by simp)).symm
      have hr2' := hr2
      rw [hz] at hr2'
      obtain ⟨M, hM⟩ : ∃ M, M = L.length := ⟨_, rfl⟩
      have hPk : P + 8 = 8 * (k + 1) := by omega
      rw [← hM] at hLl hL8 hLs hLe
      have HP := Lib.hid hP
      have HPK := Lib.hid hPk
      have HLJ := Lib.hid hLj
      have HLW := Lib.hid hLw
      have HM := Lib.hid hM
      clear hz hP hL hLj hLw hLl hM hPk
      go_wp2
      go_loopw [6] (fun i w2 => ∃ j : Nat, j ≤ M ∧ i = .int .i64 (j : Int) ∧ w2.ownsRow w.heap.size 22 1 vv (1 + k) ((s.size :: cutTo (strN s) k).map wv) ∧ Row w2 wr.heap.size 5 (part 8 (fun i => decide (i < j)) (fun i => bv (L.getD i 0)) (bv 0)) ∧ Below w.heap.size w w2) (fun i _ => 8 - (intOf i).toNat)
      case atStart => exact ⟨0, by omega, rfl, hown2, hr2', hb3⟩
      case round =>
        rename World => w2
        obtain ⟨j, hj, rfl, hownj, hrj, hbj⟩ := hrel
        clear hown2 hr2 hr2' hb3 hmk hlit
        have hne := own_ne hownj hrj (by decide)
        by_cases h8 : j < M
        · have hj8 : j < 8 := by omega
          have hjs : P + j < s.size := by omega
          have hc := hrj.cell j
          rw [part_get hj8] at hc
          have hf := hrj.free j
          simp only [decide_eq_true_eq, Nat.lt_irrefl, if_false] at hc
          have hset := hrj.set j (bv (L.getD j 0))
          rw [part_next 8 j (fun i => bv (L.getD i 0)) (bv 0), HLJ.out j (by rw [← HM.out]; exact h8) hjs] at hset
          have howns := own_set (p := ⟨wr.heap.size, j, none⟩) hownj hne (bv s[P + j].toNat)
          have hbs := hbj.setCell (p := ⟨wr.heap.size, j, none⟩) hb2.size (bv s[P + j].toNat)
          clear hne
          go_wp2
          go_roundw
          case rel => exact ⟨j + 1, by omega, by go_num, howns, hset, hbs⟩
          case measure => simp [intOf]; omega
        · have hjM : j = M := by omega
          subst hjM
          rw [pad8_part L _ (by rw [← HM.out]; exact Nat.le_refl _)] at hrj
          have ht := take0 L wr.heap.size w2 (by rw [← HM.out]; exact hL8) hLb hrj
          rw [HLW.out] at ht
          have HT := Lib.hid ht
          clear ht hrj hne
          have hown3 := hownj.alloc (.cells #[wv (wordAt (strN s) k)] 22)
          have h63 : 1 + k + 1 ≤ maxLen := by have := HP.out; unfold maxLen; omega
          have hby : (1 + k + 1) * 8 ≤ 140737488355328 := by have := HP.out; omega
          have hbs : w.heap.size ≤ (w2.alloc (.cells #[wv (wordAt (strN s) k)] 22)).heap.size := by have := hbj.size; simp; omega
          have hsn : (s.size :: cutTo (strN s) k).map wv ++ [wv (wordAt (strN s) k)] = (s.size :: cutTo (strN s) (k + 1)).map wv := by rw [List.map_cons, List.cons_append, cutTo_snoc, List.map_cons]
          have HSN := Lib.hid hsn
          clear hsn
          have hkN : k + 1 ≤ N := by have := HP.out; omega
          by_cases h8' : j = 8
          · subst h8'
            go_wp2_with fail
            refine HT.out.mono ?_
            rintro e w3 ⟨rfl, rfl⟩
            go_wp2_with (at_builtin; refine wpList_append_own _ rfl (.tmp 38) (.tmp 41) 53 rfl w.heap.size 22 i0 (.int .u64 0) 1 8 Tryd.underlying53 hi hz0 hz1 hz2 rfl (by decide) _ (1 + k) _ rfl hown3 ⟨w2.heap.size, 0, none⟩ 1 1 [wv (wordAt (strN s) k)] rfl rfl (cell_one_new _ _ _) (wv_ones [wordAt (strN s) k]) h63 hby hbs ?_; intro v4 w4 hown4 hgrow hnil)
            have hb4 : Below w.heap.size w w4 := (hbj.alloc hbj.size _).grown hgrow hbs (own_from hown3)
            rw [HSN.out] at hown4
            clear hgrow hown3 hownj hnil
            go_roundw
            case rel => exact ⟨v4, k + 1, rfl, hkN, by rw [← HPK.out]; go_num, hown4, hb4⟩
            case measure => simp [intOf]; omega
          · have hend : s.size ≤ P + j := by omega
            have hj8 : j < 8 := by omega
            go_wp2_with fail
            refine HT.out.mono ?_
            rintro e w3 ⟨rfl, rfl⟩
            go_wp2_with (at_builtin; refine wpList_append_own _ rfl (.tmp 38) (.tmp 41) 53 rfl w.heap.size 22 i0 (.int .u64 0) 1 8 Tryd.underlying53 hi hz0 hz1 hz2 rfl (by decide) _ (1 + k) _ rfl hown3 ⟨w2.heap.size, 0, none⟩ 1 1 [wv (wordAt (strN s) k)] rfl rfl (cell_one_new _ _ _) (wv_ones [wordAt (strN s) k]) h63 hby hbs ?_; intro v4 w4 hown4 hgrow hnil)
            have hb4 : Below w.heap.size w w4 := (hbj.alloc hbj.size _).grown hgrow hbs (own_from hown3)
            rw [HSN.out] at hown4
            clear hgrow hown3 hownj hnil
            go_roundw
            case rel => exact ⟨v4, k + 1, rfl, hkN, by rw [← HPK.out]; go_num, hown4, hb4⟩
            case measure => simp [intOf]; omega
    · have hkN : k = N := by omega
      subst hkN
      go_wp2
      go_ret
      exact ⟨_, rfl, hown, hb2⟩
end Go.Proofs.YtnjecjcnkmgjmaaDoor
/- Packed texts, as lists: a text is read from just what it is packed as. Plain facts, for words below 2^64. -/
namespace Go.Proofs.YtnjecjcnkmgjmaaDoor
open Go.RowKit
set_option linter.unusedVariables false
theorem joinN_zeros : ∀ (a : List Nat) (z : Nat), joinN (a ++ List.replicate z 0) = joinN a
  | [], 0 => rfl
  | [], z + 1 => by
    have h := joinN_zeros [] z
    rw [List.nil_append] at h ⊢
    rw [List.replicate_succ]
    show 0 + 256 * joinN (List.replicate z 0) = joinN []
    rw [h]
    rfl
  | b :: t, z => by rw [List.cons_append, joinN, joinN, joinN_zeros t z]
theorem joinN_zero : ∀ l : List Nat, joinN l = 0 ↔ ∀ b ∈ l, b = 0
  | [] => by simp [joinN]
  | b :: t => by
    have h := joinN_zero t
    simp only [joinN, List.mem_cons, forall_eq_or_imp]
    rw [← h]
    omega
theorem zeros_of {l : List Nat} (h : ∀ b ∈ l, b = 0) : l = List.replicate l.length 0 := List.eq_replicate_iff.2 ⟨rfl, h⟩
theorem pad8_eq (r : List Nat) (h : r.length ≤ 8) : pad8 r = r ++ List.replicate (8 - r.length) 0 := by
  apply List.ext_getElem
  · simp [pad8]; omega
  · intro i h1 h2
    have h8 : i < 8 := by rw [pad8_length] at h1; exact h1
    simp only [pad8, List.getElem_map, List.getElem_range]
    by_cases hi : i < r.length
    · rw [List.getElem_append_left hi, List.getD_eq_getElem?_getD, List.getElem?_eq_getElem hi, Option.getD_some]
    · rw [List.getElem_append_right (by omega), List.getElem_replicate, List.getD_eq_getElem?_getD, List.getElem?_eq_none (by omega)]
      rfl
theorem bytes_join_pad (r : List Nat) (hb : Byts r) (h : r.length ≤ 8) : bytesN (joinN r) = r ++ List.replicate (8 - r.length) 0 := by
  rw [← pad8_join r h, join_bytes (pad8 r) (pad8_length r) (pad8_byts r hb), pad8_eq r h]
theorem spr_cut_pad (b : List Nat) (hb : Byts b) : spr (cutN b) = b ++ List.replicate (8 * ((b.length + 7) / 8) - b.length) 0 := by
  by_cases h : b.length % 8 = 0
  · rw [spr_cut b hb h, show 8 * ((b.length + 7) / 8) - b.length = 0 from by omega]
    simp
  · unfold cutN
    obtain ⟨q, hq⟩ : ∃ q, q = b.length / 8 := ⟨_, rfl⟩
    rw [show (b.length + 7) / 8 = q + 1 from by omega, cutTo_succ, spr_append, spr_cutTo b hb q (by omega), spr_cons]
    have e : spr [] = [] := rfl
    have hr : ((b.drop (8 * q)).take 8) = b.drop (8 * q) := List.take_of_length_le (by rw [List.length_drop]; omega)
    unfold wordAt
    rw [e, List.append_nil, hr, bytes_join_pad _ (fun x hx => hb x (List.mem_of_mem_drop hx)) (by rw [List.length_drop]; omega), ← List.append_assoc, List.take_append_drop, List.length_drop]
    congr 2
    omega
theorem spr_cut_take (b : List Nat) (hb : Byts b) : (spr (cutN b)).take b.length = b := by
  rw [spr_cut_pad b hb, List.take_append_of_le_length (Nat.le_refl _), List.take_of_length_le (Nat.le_refl _)]
theorem spr_cut_drop (b : List Nat) (hb : Byts b) : joinN ((spr (cutN b)).drop b.length) = 0 := by
  rw [spr_cut_pad b hb, List.drop_left, joinN_zero]
  intro x hx
  exact (List.mem_replicate.1 hx).2
theorem wordAt_pad (X : List Nat) (z j : Nat) : wordAt (X ++ List.replicate z 0) j = wordAt X j := by
  unfold wordAt
  rw [List.drop_append, List.take_append, List.drop_replicate, List.take_replicate, joinN_zeros]
theorem cut_take (t : List Nat) (n : Nat) (ht : Wrds t) (h1 : n ≤ 8 * t.length) (h2 : 8 * t.length - n < 8) (hz : joinN ((spr t).drop n) = 0) : cutN ((spr t).take n) = t := by
  have hs := cut_spr t ht
  have hlen := spr_length t
  have hd := zeros_of ((joinN_zero _).1 hz)
  have hX : ((spr t).take n).length = n := by rw [List.length_take]; omega
  have e : spr t = (spr t).take n ++ List.replicate ((spr t).drop n).length 0 := by rw [← hd, List.take_append_drop]
  have h3 : cutN (spr t) = cutTo (spr t) t.length := by unfold cutN; rw [hlen]; congr 1; omega
  have h4 : cutN ((spr t).take n) = cutTo ((spr t).take n) t.length := by unfold cutN; rw [hX]; congr 1; omega
  have h5 : cutTo ((spr t).take n) t.length = cutTo (spr t) t.length := by
    unfold cutTo
    apply List.map_congr_left
    intro j _
    conv => rhs; rw [e]
    rw [wordAt_pad]
  rw [h4, h5, ← h3, hs]
theorem strOf_strN (s : ByteArray) : strOf (strN s) = s := by
  apply ByteArray.ext
  apply Array.toList_inj.1
  show ((strN s).map UInt8.ofNat).toArray.toList = _
  unfold strN
  rw [List.map_map]
  conv => rhs; rw [← List.map_id s.data.toList]
  apply List.map_congr_left
  intro u _
  exact UInt8.ofNat_toNat
/-- The text of words that are one, packed. -/
def textOf (n : Nat) (t : List Nat) : ByteArray := strOf ((spr t).take n)
theorem pack_text (n : Nat) (t : List Nat) (ht : Wrds t) (h1 : n ≤ 8 * t.length) (h2 : 8 * t.length - n < 8) (hz : joinN ((spr t).drop n) = 0) : packN (textOf n t) = n :: t := by
  have hX : ((spr t).take n).length = n := by rw [List.length_take, spr_length]; omega
  unfold packN textOf
  rw [strN_strOf _ (fun b hb => spr_byts t b (List.mem_of_mem_take hb)), cut_take t n ht h1 h2 hz, strOf_size, hX]
theorem text_pack (s : ByteArray) : textOf s.size (cutN (strN s)) = s := by
  unfold textOf
  have h := spr_cut_take (strN s) (strN_byts s)
  rw [strN_length] at h
  rw [h, strOf_strN]
end Go.Proofs.YtnjecjcnkmgjmaaDoor
/- Words and Bytes: the contracts of the program's functions on lists of at most a million items. -/
namespace Go.Proofs.YtnjecjcnkmgjmaaDoor
open Go.RowKit
set_option linter.unusedVariables false
set_option maxRecDepth 100000 in
set_option maxHeartbeats 800000 in
theorem wbytes_any (l : List Nat) (A : Option Addr) (len cap : Nat) (w : World) (hlen : l.length = len) (hl : len ≤ 1000000) (hs : Sl w A (l.map wv)) :
    Calls Tryd.prog 75 #[.slice A len cap] w fun e w' => e = .returned (.slice (some ⟨w.heap.size, 0, none⟩) (8 * len) (8 * len)) ∧
      w'.ownsRow w.heap.size 5 1 (.slice (some ⟨w.heap.size, 0, none⟩) (8 * len) (8 * len)) (8 * len) ((spr l).map bv) ∧ Below w.heap.size w w' := by
  obtain ⟨i0, hi, hz0, hz1, hz2⟩ := info_parts info5
  have HQ : Hid ((len : Int) * 8 = ((8 * len : Nat) : Int)) := Lib.hid (by omega)
  have hall : spr l = sprTo l len := by rw [← hlen, sprTo_all]
  rw [hall]
  clear hall
  have m2 : i0.bytes * (8 * len) ≤ 281474976710656 := by rw [hz2]; omega
  have m3 : 8 * len ≤ maxLen := by unfold maxLen; omega
  have hlen1 : l.length ≤ len := by omega
  have hlen2 : len ≤ l.length := by omega
  clear hlen
  go_enter Tryd.func75, Tryd.ntmps75
  go_wp2_with (at_make; refine wpList_make_own _ rfl _ _ 37 rfl w.heap.size 5 i0 _ 1 Tryd.underlying37 hi hz0 hz1 .i64 .i64 _ (8 * len) rfl rfl HQ.out m2 m3 (Nat.le_refl _) ?_; intro w1 hown1 hgrow1)
  have hb1 : Below w.heap.size w w1 := (Below.refl _ _).grown hgrow1 (Nat.le_refl _) (by intro k hk; cases hk)
  clear hgrow1
  go_loopw [3, 13] (fun v i wr => ∃ k : Nat, k ≤ len ∧ i = .int .i64 (k : Int) ∧ v = .slice (some ⟨w.heap.size, 0, none⟩) (8 * k) (8 * len) ∧
      wr.ownsRow w.heap.size 5 1 (.slice (some ⟨w.heap.size, 0, none⟩) (8 * k) (8 * len)) (8 * k) ((sprTo l k).map bv) ∧ Below w.heap.size w wr) (fun _ i _ => len - (intOf i).toNat)
  case atStart => exact ⟨0, by omega, rfl, rfl, hown1, hb1⟩
  case round =>
    obtain ⟨k, hk, rfl, rfl, hown, hb2⟩ := hrel
    clear hown1 hb1
    by_cases hlt : k < len
    · obtain ⟨a, rfl, hc⟩ := (hs.below hb2).at_ (i := k) (by simp; omega)
      rw [List.getElem_map] at hc
      have hsn := sprTo_snoc l k (by omega)
      obtain ⟨n, hn⟩ : ∃ n, n = l[k]'(by omega) := ⟨_, rfl⟩
      rw [← hn] at hc hsn
      clear hn
      have HS := Lib.hid hsn
      clear hsn
      unfold wv at hc
      have hfit := bytes8_fit n
      have hold := bytes8_old n
      have hone := bytes8_one n
      obtain ⟨B, hB⟩ : ∃ B, B = bytes8 n := ⟨_, rfl⟩
      rw [← hB] at hfit hold hone
      have HB := Lib.hid hB
      clear hB
      go_wp2_with fail
      refine (put_any n _).mono ?_
      rintro e w3 ⟨rfl, hb3⟩
      rw [← HB.out]
      have hr3 := Row.new w3 107 (Array.replicate 8 (bv 0))
      have hbx : Below w3.heap.size w3 ((w3.alloc (.cells (Array.replicate 8 (bv 0)) 107)).setRow w3.heap.size B) := below_setRow (alloc_below _ _) (Nat.le_refl _) _
      have hown2 := own_keep (own_keep hown hb3) hbx
      have hbW := Below.and hb2 (Below.and hb3 hbx)
      have hcells : ∀ j v, ((bytesN n).map bv)[j]? = some v → ((w3.alloc (.cells (Array.replicate 8 (bv 0)) 107)).setRow w3.heap.size B).cell? ((⟨w3.heap.size, 0, none⟩ : Addr).add j) = some v := by
        have hrow := hr3.setRow B
        intro j v hv
        rw [add_lit, hrow.cell, HB.out, bytes8_list]
        simpa using hv
      have hL8 : ((bytesN n).map bv).length = 8 * 1 := by rw [List.length_map, bytesN_length]
      have hone2 := bv_ones (bytesN n)
      obtain ⟨L8, hL⟩ : ∃ L8, L8 = (bytesN n).map bv := ⟨_, rfl⟩
      rw [← hL] at hcells hL8 hone2
      have HL := Lib.hid hL
      clear hL
      have hk8 : 8 * k + 8 ≤ 8 * len := by omega
      go_wp2_with (first | (refine wpList_store_row rfl 107 _ _ rfl w3.heap.size B rfl rfl 107 _ hr3 hfit hold hone ?_) | (at_builtin; refine wpList_append_fits _ rfl (.tmp 19) (.tmp 20) 37 rfl w.heap.size 5 i0 1 Tryd.underlying37 hi hz1 w.heap.size (8 * k) (8 * len) _ rfl hown2 ⟨w3.heap.size, 0, none⟩ 8 8 L8 rfl hL8 hcells hone2 hk8 ?_; intro w4 hown4 hgrow4))
      have hb5 : Below w.heap.size w w4 := hbW.grown hgrow4 hbW.size (by intro q hq; cases hq; exact Nat.le_refl _)
      rw [HL.out, HS.out] at hown4
      clear hgrow4 hown2 hown hcells hL8 hone2 hr3 hbx hbW
      have e8 : 8 * (k + 1) = 8 * k + 8 := by omega
      go_roundw
      case rel => exact ⟨k + 1, by omega, by go_num, by rw [e8], by rw [e8]; exact hown4, hb5⟩
      case measure => simp [intOf]; omega
    · have hkN : k = len := by omega
      subst hkN
      go_wp2
      go_ret
      exact ⟨rfl, hown, hb2⟩
end Go.Proofs.YtnjecjcnkmgjmaaDoor
/- Unpack: the error, or the text that is so packed, by the program and by the document: for lists of at most a million words below 2^64. -/
namespace Go.Proofs.YtnjecjcnkmgjmaaDoor
open Go.RowKit
set_option linter.unusedVariables false
theorem size_28 (w : World) : (sizeOf (Tryd.prog.elem 37)).run Tryd.prog w = .ok 1 w := by kernel_rfl
theorem size_37 (w : World) : (sizeOf (Tryd.prog.elem 53)).run Tryd.prog w = .ok 1 w := by kernel_rfl
theorem under28 : Tryd.prog.underlying 37 = some (.slice (Tryd.prog.elem 37)) := by kernel_rfl
theorem under37 : Tryd.prog.underlying 53 = some (.slice (Tryd.prog.elem 53)) := by kernel_rfl
/-- What is left of a slice from a place on. -/
def fromA (a : Addr) (k c : Nat) : Option Addr := if c = k then some a else some (a.add k)
theorem from37 (a : Addr) (n c : Nat) (h : 1 ≤ n) (W : World) : (Instr.slice 53 (.slice (some a) n c) (some (.int .i64 1)) none none).run Tryd.prog W = .ok (.slice (fromA a 1 c) (n - 1) (c - 1)) W := by
  rw [run_slice_l (w := W) 53 (some a) n c under37 .i64 1 (by omega) (by omega), size_37]
  simp [Result.andThen, sliced, fromA]
theorem from28 (a : Addr) (k c : Nat) (h : k ≤ c) (W : World) : (Instr.slice 37 (.slice (some a) c c) (some (.int .u64 (k : Int))) none none).run Tryd.prog W = .ok (.slice (fromA a k c) (c - k) (c - k)) W := by
  rw [run_slice_l (w := W) 37 (some a) c c under28 .u64 k (by omega) (by omega), size_28]
  simp [Result.andThen, sliced, fromA]
theorem to28 (a : Addr) (k c : Nat) (h : k ≤ c) (W : World) : (Instr.slice 37 (.slice (some a) c c) none (some (.int .u64 (k : Int))) (some (.int .u64 (k : Int)))).run Tryd.prog W = .ok (.slice (some a) k k) W := by
  rw [run_slice_hm (w := W) 37 (some a) c c under28 .u64 .u64 k k (by omega) (by omega) (by omega), size_28]
  simp [Result.andThen, sliced, add_zero']
theorem to28i (A : Option Addr) (k n c : Nat) (h : k ≤ c) (W : World) : (Instr.slice 37 (.slice A n c) none (some (.int .i64 (k : Int))) none).run Tryd.prog W = .ok (.slice A k c) W := by
  rw [run_slice_h (w := W) 37 A n c under28 .i64 k (by omega) (by omega), size_28]
  cases A <;> simp [Result.andThen, sliced, add_zero']
theorem fromA_sl {w : World} {a : Addr} {xs : List Value} (h : Sl w (some a) xs) (k c : Nat) (hc : xs.length ≤ c) : Sl w (fromA a k c) (xs.drop k) := by
  unfold fromA
  split
  · rw [List.drop_of_length_le (by omega)]
    intro i u hu
    simp at hu
  · have := h.sub k (xs.length - k)
    rwa [List.take_of_length_le (by rw [List.length_drop]; omega)] at this
set_option maxRecDepth 100000 in
set_option maxHeartbeats 800000 in
theorem unpack_ok (n : Nat) (t : List Nat) (a : Addr) (len cap : Nat) (w : World) (hlen : t.length + 1 = len) (hl : len ≤ 1000) (hc : len ≤ cap) (hcm : cap ≤ maxLen) (hn : n < 18446744073709551616) (hwd : Wrds t) (hs : Sl w (some a) ((n :: t).map wv))
    (h1 : n ≤ 8 * t.length) (h2 : 8 * t.length - n < 8) (hz : joinN ((spr t).drop n) = 0) :
    Calls Tryd.prog 65 #[.slice (some a) len cap] w fun e w' => e = .returned (.tuple #[.string (textOf n t), .int .i64 0]) ∧ Below w.heap.size w w' := by
  unfold maxLen at hcm
  have hc0 := hs.some_ (i := 0) (by simp)
  simp only [List.map_cons, List.getElem_cons_zero, add_zero'] at hc0
  unfold wv at hc0
  have hst := fromA_sl hs 1 cap (by simp; omega)
  have hst' : Sl w (fromA a 1 cap) (t.map wv) := by simpa using hst
  have hf37 := from37 a len cap (by omega)
  obtain ⟨m, hm⟩ : ∃ m, m = t.length := ⟨_, rfl⟩
  have hl1 : len - 1 = m := by omega
  have hlm1 : m + 1 ≤ len := by omega
  have hlm2 : len ≤ m + 1 := by omega
  rw [← hm] at h1 h2
  rw [hl1] at hf37
  obtain ⟨A1, hA1⟩ : ∃ A1, A1 = fromA a 1 cap := ⟨_, rfl⟩
  rw [← hA1] at hst' hf37
  have HB := Lib.hid fun w hs => wbytes_any t A1 m (cap - 1) w hm.symm (by omega) hs
  have hlenspr : (spr t).length = 8 * m := by rw [spr_length, hm]
  have hsb := spr_byts t
  obtain ⟨S, hS⟩ : ∃ S, S = textOf n t := ⟨_, rfl⟩
  rw [← hS]
  have HTX : Hid (strOf ((spr t).take n) = S) := Lib.hid hS.symm
  clear hst hs hl1 hlen hA1 hm hS
  have hne : ((len : Int) == 0) = false := by simp; omega
  go_enter Tryd.func65, Tryd.ntmps65
  go_wp2_with fail
  refine (HB.out _ hst').mono ?_
  rintro e w1 ⟨rfl, hown, hb1⟩
  have hsl : Sl w1 (some ⟨w.heap.size, 0, none⟩) ((spr t).map bv) := fun i u hu => ⟨_, rfl, hown.cells rfl i u hu⟩
  obtain ⟨g, hg⟩ : ∃ g, g = w.heap.size := ⟨_, rfl⟩
  rw [← hg] at hsl hown ⊢
  have hsd := fromA_sl hsl n (8 * m) (by rw [List.length_map, hlenspr]; exact Nat.le_refl _)
  rw [← List.map_drop] at hsd
  have hf28 := from28 ⟨g, 0, none⟩ n (8 * m) h1
  have ht28 := to28 ⟨g, 0, none⟩ n (8 * m) h1
  obtain ⟨A2, hA2⟩ : ∃ A2, A2 = fromA ⟨g, 0, none⟩ n (8 * m) := ⟨_, rfl⟩
  rw [← hA2] at hsd hf28
  have hj := join_any ((spr t).drop n) A2 (8 * m - n) (8 * m - n) w1 (fun b h => hsb b (List.mem_of_mem_drop h)) (by rw [List.length_drop, hlenspr]) (by omega) hsd
  have hst2 := hsl.sub 0 n
  rw [add_zero', List.drop_zero, ← List.map_take] at hst2
  have hcv := conv_sl n n (by rw [List.length_take, hlenspr]; omega) hst2
  rw [HTX.out] at hcv
  rw [hz] at hj
  have HJ := Lib.hid hj
  clear hj hst2 hA2 hg hsl hsd hown HB hf37 hst'
  go_wp2_with fail
  refine HJ.out.mono ?_
  rintro e w2 ⟨rfl, rfl⟩
  go_wp2
  go_ret2
  exact ⟨rfl, hb1⟩
set_option maxRecDepth 100000 in
set_option maxHeartbeats 800000 in
theorem unpack_bad (n : Nat) (t : List Nat) (a : Addr) (len cap : Nat) (w : World) (hlen : t.length + 1 = len) (hl : len ≤ 1000) (hc : len ≤ cap) (hcm : cap ≤ maxLen) (hn : n < 18446744073709551616) (hwd : Wrds t) (hs : Sl w (some a) ((n :: t).map wv))
    (h1 : n ≤ 8 * t.length) (h2 : 8 * t.length - n < 8) (hz : joinN ((spr t).drop n) ≠ 0) :
    Calls Tryd.prog 65 #[.slice (some a) len cap] w fun e w' => e = .returned (.tuple #[.string ⟨#[]⟩, .int .i64 11]) ∧ Below w.heap.size w w' := by
  unfold maxLen at hcm
  have hc0 := hs.some_ (i := 0) (by simp)
  simp only [List.map_cons, List.getElem_cons_zero, add_zero'] at hc0
  unfold wv at hc0
  have hst := fromA_sl hs 1 cap (by simp; omega)
  have hst' : Sl w (fromA a 1 cap) (t.map wv) := by simpa using hst
  have hf37 := from37 a len cap (by omega)
  obtain ⟨m, hm⟩ : ∃ m, m = t.length := ⟨_, rfl⟩
  have hl1 : len - 1 = m := by omega
  have hlm1 : m + 1 ≤ len := by omega
  have hlm2 : len ≤ m + 1 := by omega
  rw [← hm] at h1 h2
  rw [hl1] at hf37
  obtain ⟨A1, hA1⟩ : ∃ A1, A1 = fromA a 1 cap := ⟨_, rfl⟩
  rw [← hA1] at hst' hf37
  have HB := Lib.hid fun w hs => wbytes_any t A1 m (cap - 1) w hm.symm (by omega) hs
  have hlenspr : (spr t).length = 8 * m := by rw [spr_length, hm]
  have hsb := spr_byts t
  clear hst hs hl1 hlen hA1 hm
  have hne : ((len : Int) == 0) = false := by simp; omega
  go_enter Tryd.func65, Tryd.ntmps65
  go_wp2_with fail
  refine (HB.out _ hst').mono ?_
  rintro e w1 ⟨rfl, hown, hb1⟩
  have hsl : Sl w1 (some ⟨w.heap.size, 0, none⟩) ((spr t).map bv) := fun i u hu => ⟨_, rfl, hown.cells rfl i u hu⟩
  obtain ⟨g, hg⟩ : ∃ g, g = w.heap.size := ⟨_, rfl⟩
  rw [← hg] at hsl hown ⊢
  have hsd := fromA_sl hsl n (8 * m) (by rw [List.length_map, hlenspr]; exact Nat.le_refl _)
  rw [← List.map_drop] at hsd
  have hf28 := from28 ⟨g, 0, none⟩ n (8 * m) h1
  have ht28 := to28 ⟨g, 0, none⟩ n (8 * m) h1
  obtain ⟨A2, hA2⟩ : ∃ A2, A2 = fromA ⟨g, 0, none⟩ n (8 * m) := ⟨_, rfl⟩
  rw [← hA2] at hsd hf28
  have hj := join_any ((spr t).drop n) A2 (8 * m - n) (8 * m - n) w1 (fun b h => hsb b (List.mem_of_mem_drop h)) (by rw [List.length_drop, hlenspr]) (by omega) hsd
  obtain ⟨Q, hQ⟩ : ∃ Q, Q = joinN ((spr t).drop n) := ⟨_, rfl⟩
  rw [← hQ] at hj hz
  have hq : ((Q : Int) != 0) = true := by rw [bne_iff_ne]; omega
  have HJ := Lib.hid hj
  clear hj hA2 hQ hg hsl hsd hown HB hf37 hst'
  go_wp2_with fail
  refine HJ.out.mono ?_
  rintro e w2 ⟨rfl, rfl⟩
  go_wp2
  go_ret2
  exact ⟨rfl, hb1⟩
set_option maxRecDepth 100000 in
set_option maxHeartbeats 400000 in
theorem unpack_nil (A : Option Addr) (cap : Nat) (w : World) :
    Calls Tryd.prog 65 #[.slice A 0 cap] w fun e w' => e = .returned (.tuple #[.string ⟨#[]⟩, .int .i64 11]) ∧ Below w.heap.size w w' := by
  go_enter Tryd.func65, Tryd.ntmps65
  go_wp2
  go_ret2
  exact ⟨rfl, Below.refl _ _⟩
set_option maxRecDepth 100000 in
set_option maxHeartbeats 400000 in
theorem unpack_room (n m : Nat) (a : Addr) (len cap : Nat) (w : World) (hlen : m + 1 = len) (hl : len ≤ 1000) (hn : n < 18446744073709551616) (hc : w.cell? a = some (wv n))
    (h : 8 * m < n ∨ 8 ≤ 8 * m - n) :
    Calls Tryd.prog 65 #[.slice (some a) len cap] w fun e w' => e = .returned (.tuple #[.string ⟨#[]⟩, .int .i64 11]) ∧ Below w.heap.size w w' := by
  unfold wv at hc
  have hne : ((len : Int) == 0) = false := by simp; omega
  by_cases h1 : 8 * m < n
  · have h2 : ((len : Int) - 1) * 8 < (n : Int) := by omega
    go_enter Tryd.func65, Tryd.ntmps65
    go_wp2
    go_ret2
    exact ⟨rfl, Below.refl _ _⟩
  · have h2 : (n : Int) ≤ ((len : Int) - 1) * 8 := by omega
    have h3 : 8 ≤ ((len : Int) - 1) * 8 - (n : Int) := by omega
    go_enter Tryd.func65, Tryd.ntmps65
    go_wp2
    go_ret2
    exact ⟨rfl, Below.refl _ _⟩
set_option maxRecDepth 100000 in
set_option maxHeartbeats 400000 in
theorem refUnpack_nil (A : Option Addr) (cap : Nat) (w : World) :
    Calls Tryd.prog 40 #[.slice A 0 cap] w fun e w' => e = .returned (.tuple #[.string ⟨#[]⟩, .int .i64 11]) ∧ Below w.heap.size w w' := by
  go_enter Tryd.func40, Tryd.ntmps40
  go_wp2
  go_ret2
  exact ⟨rfl, Below.refl _ _⟩
set_option maxRecDepth 100000 in
set_option maxHeartbeats 400000 in
theorem refUnpack_room (n m : Nat) (a : Addr) (len cap : Nat) (w : World) (hlen : m + 1 = len) (hl : len ≤ 1000) (hn : n < 18446744073709551616) (hc : w.cell? a = some (wv n))
    (h : 8 * m < n ∨ 8 ≤ 8 * m - n) :
    Calls Tryd.prog 40 #[.slice (some a) len cap] w fun e w' => e = .returned (.tuple #[.string ⟨#[]⟩, .int .i64 11]) ∧ Below w.heap.size w w' := by
  unfold wv at hc
  have hne : ((len : Int) == 0) = false := by simp; omega
  by_cases h1 : 8 * m < n
  · have h2 : ((len : Int) - 1) * 8 < (n : Int) := by omega
    go_enter Tryd.func40, Tryd.ntmps40
    go_wp2
    go_ret2
    exact ⟨rfl, Below.refl _ _⟩
  · have h2 : (n : Int) ≤ ((len : Int) - 1) * 8 := by omega
    have h3 : 8 ≤ ((len : Int) - 1) * 8 - (n : Int) := by omega
    go_enter Tryd.func40, Tryd.ntmps40
    go_wp2
    go_ret2
    exact ⟨rfl, Below.refl _ _⟩
end Go.Proofs.YtnjecjcnkmgjmaaDoor
/- The document's own unpacking: the error, or the text that is so packed: for lists of at most a thousand words below 2^64. -/
namespace Go.Proofs.YtnjecjcnkmgjmaaDoor
open Go.RowKit
set_option linter.unusedVariables false
theorem first_not : ∀ l : List Nat, joinN l ≠ 0 → ∃ d, ∃ h : d < l.length, l[d] ≠ 0 ∧ ∀ i (hi : i < d), (l[i]'(by omega)) = 0
  | [], h => by simp [joinN] at h
  | b :: t, h => by
    by_cases hb : b = 0
    · subst hb
      simp only [joinN] at h
      obtain ⟨d, hd, h1, h2⟩ := first_not t (by omega)
      refine ⟨d + 1, by simp; omega, by simpa using h1, ?_⟩
      intro i hi
      cases i with
      | zero => rfl
      | succ i => simpa using h2 i (by omega)
    · exact ⟨0, by simp, by simpa using hb, fun i hi => absurd hi (by omega)⟩
set_option maxRecDepth 100000 in
set_option maxHeartbeats 800000 in
theorem refUnpack_ok (n : Nat) (t : List Nat) (a : Addr) (len cap : Nat) (w : World) (hlen : t.length + 1 = len) (hl : len ≤ 1000) (hn : n < 18446744073709551616) (hwd : Wrds t) (hs : Sl w (some a) ((n :: t).map wv)) (hcap : len ≤ cap)
    (h1 : n ≤ 8 * t.length) (h2 : 8 * t.length - n < 8) (hz : joinN ((spr t).drop n) = 0) :
    Calls Tryd.prog 40 #[.slice (some a) len cap] w fun e w' => e = .returned (.tuple #[.string (textOf n t), .int .i64 0]) ∧ Below w.heap.size w w' := by
  have hc0 := hs.some_ (i := 0) (by simp)
  simp only [List.map_cons, List.getElem_cons_zero, add_zero'] at hc0
  unfold wv at hc0
  have hst := fromA_sl hs 1 cap (by simp; omega)
  have hst' : Sl w (fromA a 1 cap) (t.map wv) := by simpa using hst
  have hf37 := from37 a len cap (by omega)
  obtain ⟨m, hm⟩ : ∃ m, m = t.length := ⟨_, rfl⟩
  have hl1 : len - 1 = m := by omega
  have hlm1 : m + 1 ≤ len := by omega
  have hlm2 : len ≤ m + 1 := by omega
  rw [← hm] at h1 h2
  rw [hl1] at hf37
  obtain ⟨A1, hA1⟩ : ∃ A1, A1 = fromA a 1 cap := ⟨_, rfl⟩
  rw [← hA1] at hst' hf37
  have HB := Lib.hid fun w hs => refWBytes_any t A1 m (cap - 1) w hm.symm (by omega) hwd hs
  have hlenspr : (spr t).length = 8 * m := by rw [spr_length, hm]
  have hzero : ∀ q (h : q < (spr t).length), n ≤ q → (spr t)[q] = 0 := by
    intro q h hq
    refine (joinN_zero _).1 hz _ ?_
    rw [List.mem_iff_getElem]
    refine ⟨q - n, by rw [List.length_drop]; omega, ?_⟩
    rw [List.getElem_drop]
    congr 1
    omega
  obtain ⟨S, hS⟩ : ∃ S, S = textOf n t := ⟨_, rfl⟩
  rw [← hS]
  have HTX : Hid (strOf ((spr t).take n) = S) := Lib.hid hS.symm
  obtain ⟨X, hX⟩ : ∃ X, X = spr t := ⟨_, rfl⟩
  rw [← hX] at hlenspr HB HTX hzero
  have HZ := Lib.hid hzero
  have HLX := Lib.hid hlenspr
  have hx1 : X.length ≤ 8 * m := by omega
  have hx2 : 8 * m ≤ X.length := by omega
  clear hst hs hl1 hlen hA1 hm hS hX hzero hz hlenspr hwd
  have hne : ((len : Int) == 0) = false := by simp; omega
  go_enter Tryd.func40, Tryd.ntmps40
  go_wp2_with fail
  refine (HB.out _ hst').mono ?_
  rintro e w1 ⟨v, rfl, hown, hb1⟩
  obtain ⟨A2, c2, rfl, hc2, _, hsl, _⟩ := own_sl hown
  have hto := to28i A2 n (8 * m) c2 (by omega)
  have hsx : Sl w1 A2 ((X.take n).map bv) := by
    intro i u hu
    rw [List.map_take, List.getElem?_take] at hu
    split at hu
    · exact hsl i u hu
    · cases hu
  have hcv := conv_any n c2 (by rw [List.length_take]; omega) hsx (fun e => by
    subst e
    by_cases h0 : n = 0
    · exact h0
    · obtain ⟨a', e, _⟩ := hsl.at_ (i := 0) (by simp; omega)
      cases e)
  rw [HTX.out] at hcv
  clear hown hsx HB hf37 hst'
  go_wp2
  go_loop [7] (fun i => ∃ q : Nat, n ≤ q ∧ q ≤ 8 * m ∧ i = .int .i64 (q : Int)) (fun i => 8 * m - (intOf i).toNat)
  case atStart => exact ⟨n, by omega, h1, rfl⟩
  case round =>
    obtain ⟨q, hq1, hq2, rfl⟩ := hrel
    by_cases hlt : q < 8 * m
    · obtain ⟨b, rfl, hcb⟩ := hsl.at_ (i := q) (by simp; omega)
      rw [List.getElem_map, HZ.out q (by omega) hq1] at hcb
      unfold bv at hcb
      have h00 : (((0 : Nat) : Int) != 0) = false := rfl
      clear hto hcv
      go_wp2
      go_round
      case rel => exact ⟨q + 1, by omega, by omega, by go_num⟩
      case measure => simp [intOf]; omega
    · go_wp2
      go_ret2
      exact ⟨rfl, hb1⟩
set_option maxRecDepth 100000 in
set_option maxHeartbeats 800000 in
theorem refUnpack_bad (n : Nat) (t : List Nat) (a : Addr) (len cap : Nat) (w : World) (hlen : t.length + 1 = len) (hl : len ≤ 1000) (hn : n < 18446744073709551616) (hwd : Wrds t) (hs : Sl w (some a) ((n :: t).map wv)) (hcap : len ≤ cap)
    (h1 : n ≤ 8 * t.length) (h2 : 8 * t.length - n < 8) (hz : joinN ((spr t).drop n) ≠ 0) :
    Calls Tryd.prog 40 #[.slice (some a) len cap] w fun e w' => e = .returned (.tuple #[.string ⟨#[]⟩, .int .i64 11]) ∧ Below w.heap.size w w' := by
  have hc0 := hs.some_ (i := 0) (by simp)
  simp only [List.map_cons, List.getElem_cons_zero, add_zero'] at hc0
  unfold wv at hc0
  have hst := fromA_sl hs 1 cap (by simp; omega)
  have hst' : Sl w (fromA a 1 cap) (t.map wv) := by simpa using hst
  have hf37 := from37 a len cap (by omega)
  obtain ⟨m, hm⟩ : ∃ m, m = t.length := ⟨_, rfl⟩
  have hl1 : len - 1 = m := by omega
  have hlm1 : m + 1 ≤ len := by omega
  have hlm2 : len ≤ m + 1 := by omega
  rw [← hm] at h1 h2
  rw [hl1] at hf37
  obtain ⟨A1, hA1⟩ : ∃ A1, A1 = fromA a 1 cap := ⟨_, rfl⟩
  rw [← hA1] at hst' hf37
  have HB := Lib.hid fun w hs => refWBytes_any t A1 m (cap - 1) w hm.symm (by omega) hwd hs
  have hlenspr : (spr t).length = 8 * m := by rw [spr_length, hm]
  obtain ⟨p, hp1, hp2, hp3, hzero⟩ : ∃ p, ∃ h : p < (spr t).length, n ≤ p ∧ (spr t)[p] ≠ 0 ∧ ∀ q (_ : q < p), n ≤ q → (spr t)[q] = 0 := by
    obtain ⟨d, hd, e1, e2⟩ := first_not _ hz
    rw [List.length_drop] at hd
    refine ⟨n + d, by omega, by omega, ?_, ?_⟩
    · rw [List.getElem_drop] at e1
      exact e1
    · intro q hq hnq
      have e3 := e2 (q - n) (by omega)
      rw [List.getElem_drop] at e3
      rw [← e3]
      congr 1
      omega
  obtain ⟨X, hX⟩ : ∃ X, X = spr t := ⟨_, rfl⟩
  obtain ⟨Y, hY⟩ : ∃ Y, Y = (spr t)[p] := ⟨_, rfl⟩
  rw [← hY] at hp3
  have hget : (spr t)[p]? = some Y := by rw [hY]; exact List.getElem?_eq_getElem hp1
  have hzz : ∀ q, q < p → n ≤ q → (spr t)[q]? = some 0 := by
    intro q h1 h2
    rw [List.getElem?_eq_getElem (by omega), hzero q h1 h2]
  clear hzero hY
  rw [← hX] at hlenspr HB hget hzz hp1
  have HZ := Lib.hid hzz
  have HG := Lib.hid hget
  have hpm : p < 8 * m := by omega
  have HLX := Lib.hid hlenspr
  have hx1 : X.length ≤ 8 * m := by omega
  have hx2 : 8 * m ≤ X.length := by omega
  clear hst hs hl1 hlen hA1 hm hX hzz hz hlenspr hwd hget hp1
  have hne : ((len : Int) == 0) = false := by simp; omega
  go_enter Tryd.func40, Tryd.ntmps40
  go_wp2_with fail
  refine (HB.out _ hst').mono ?_
  rintro e w1 ⟨v, rfl, hown, hb1⟩
  obtain ⟨A2, c2, rfl, hc2, _, hsl, _⟩ := own_sl hown
  clear hown HB hf37 hst'
  go_wp2
  go_loop [7] (fun i => ∃ q : Nat, n ≤ q ∧ q ≤ p ∧ i = .int .i64 (q : Int)) (fun i => 8 * m - (intOf i).toNat)
  case atStart => exact ⟨n, by omega, hp2, rfl⟩
  case round =>
    obtain ⟨q, hq1, hq2, rfl⟩ := hrel
    have hq8 : q < 8 * m := by omega
    have hcq : ∃ b, A2 = some b ∧ w1.cell? (b.add q) = (X.map bv)[q]? := by
      obtain ⟨b, e, hcb⟩ := hsl.at_ (i := q) (by simp; omega)
      exact ⟨b, e, by rw [hcb, List.getElem?_eq_getElem]⟩
    obtain ⟨b, rfl, hcb⟩ := hcq
    rw [List.getElem?_map] at hcb
    by_cases hlt : q < p
    · rw [HZ.out q hlt hq1] at hcb
      simp only [Option.map_some] at hcb
      unfold bv at hcb
      have h00 : (((0 : Nat) : Int) != 0) = false := rfl
      go_wp2
      go_round
      case rel => exact ⟨q + 1, by omega, by omega, by go_num⟩
      case measure => simp [intOf]; omega
    · have hqp : q = p := by omega
      subst hqp
      rw [HG.out] at hcb
      simp only [Option.map_some] at hcb
      unfold bv at hcb
      have hyy : ((Y : Int) != 0) = true := by rw [bne_iff_ne]; omega
      go_wp2
      go_ret2
      exact ⟨rfl, hb1⟩
end Go.Proofs.YtnjecjcnkmgjmaaDoor
