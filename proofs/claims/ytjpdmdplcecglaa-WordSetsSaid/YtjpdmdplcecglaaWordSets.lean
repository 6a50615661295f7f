/- WordSets answers true for every list of bytes, every place, every word: Get and Set are the document's, and Set turns just those bytes. -/
import Derived.Test.YtjpdmdplcecglaaBytes
namespace Go.Proofs.Ytjpdmdplcecglaa
open Go.RowKit
set_option linter.unusedVariables false
set_option maxHeartbeats 400000 in
theorem sets_long (A : Option Addr) (len cap : Nat) (p : Int) (n : Nat) (w : World) (h : 1000 < len) :
    Calls Try.prog 4 #[.slice A len cap, .int .i64 p, .int .u64 (n : Int)] w fun e w' => e = .returned (.bool true) ∧ Below w.heap.size w w' := by
  go_enter Try.func4, Try.ntmps4
  go_wp2_with fail
  refine (known_any _).mono ?_
  rintro e w3 ⟨rfl, hb3⟩
  go_wp2
  go_ret
  exact ⟨rfl, hb3⟩
/-- The document's bytes, under a name. -/
theorem refPut_as (n : Nat) (B : Array Value) (hn : n < 18446744073709551616) (hB : B = bytes8 n) (w : World) :
    Calls Try.prog 14 #[.int .u64 n] w fun e w' => e = .returned (.agg B) ∧ Below w.heap.size w w' := by
  rw [hB]
  exact refPut_any n w hn
set_option maxHeartbeats 400000 in
set_option maxRecDepth 100000 in
theorem sets_none (p : Int) (n : Nat) (w : World) (hn : n < 18446744073709551616) :
    Calls Try.prog 4 #[.slice none 0 0, .int .i64 p, .int .u64 (n : Int)] w fun e w' => e = .returned (.bool true) ∧ Below w.heap.size w w' := by
  obtain ⟨i0, hi, hz0, hz1, hz2⟩ := info_parts info5
  have hp : p < 0 ∨ ((0 : Nat) : Int) - 8 < p := by omega
  have H1 := Lib.hid (get_no none 0 0 p · (by omega) hp)
  have H2 := Lib.hid (refGet_no none 0 0 p · (by omega) hp)
  have H3 := Lib.hid (set_no none 0 0 p n · (by omega) hp)
  have hfit := bytes8_fit n
  have hold := bytes8_old n
  have hone := bytes8_one n
  obtain ⟨B, hB⟩ : ∃ B, B = bytes8 n := ⟨_, rfl⟩
  have H4 := Lib.hid (refPut_as n B hn hB)
  rw [← hB] at hfit hold hone
  clear hp hB
  go_enter Try.func4, Try.ntmps4
  go_wp2_with fail
  refine (H1.out _).mono ?_
  rintro e w3 ⟨rfl, rfl⟩
  go_wp2_with fail
  refine (H2.out _).mono ?_
  rintro e w3 ⟨rfl, rfl⟩
  go_wp2_with fail
  refine (H3.out _).mono ?_
  rintro e w3 ⟨rfl, rfl⟩
  go_wp2_with fail
  refine (H4.out _).mono ?_
  rintro e w3 ⟨rfl, hb3⟩
  have hr3 := Row.new w3 23 (Array.replicate 8 (bv 0))
  go_wp2_with (first | (refine wpList_store_row rfl 23 _ _ rfl w3.heap.size B rfl rfl 23 _ hr3 hfit hold hone ?_))
  have hbW : Below w.heap.size w ((w3.alloc (Obj.cells (Array.replicate 8 (bv 0)) 23)).setRow w3.heap.size B) := below_setRow (Below.and hb3 (alloc_below _ _)) hb3.size _
  clear hr3 hfit hold hone
  go_loop [14] (fun i => i = .int .i64 0) (fun _ => 0)
  case atStart => rfl
  case round =>
    subst hrel
    go_wp2_with fail
    refine (known_any _).mono ?_
    rintro e w4 ⟨rfl, hb4⟩
    go_wp2
    go_ret
    exact ⟨rfl, Below.and hbW hb4⟩
set_option maxHeartbeats 800000 in
set_option maxRecDepth 100000 in
theorem sets_no (l : List Nat) (x : Addr) (len cap : Nat) (p : Int) (n : Nat) (w : World) (hn : n < 18446744073709551616) (hlen : l.length = len) (hl : len ≤ 1000) (hp : p < 0 ∨ (len : Int) - 8 < p) (hs : Sl w (some x) (l.map bv)) :
    Calls Try.prog 4 #[.slice (some x) len cap, .int .i64 p, .int .u64 (n : Int)] w fun e w' => e = .returned (.bool true) ∧ Below w.heap.size w w' := by
  obtain ⟨i0, hi, hz0, hz1, hz2⟩ := info_parts info5
  have H1 := Lib.hid fun A c w => get_no A len c p w (by omega) hp
  have H2 := Lib.hid (refGet_no (some x) len cap p · (by omega) hp)
  have H3 := Lib.hid fun A c w => set_no A len c p n w (by omega) hp
  have hown0 := World.ownsRow_nil w w.heap.size 5 1
  have hfit := bytes8_fit n
  have hold := bytes8_old n
  have hone := bytes8_one n
  obtain ⟨B, hB⟩ : ∃ B, B = bytes8 n := ⟨_, rfl⟩
  have H4 := Lib.hid (refPut_as n B hn hB)
  rw [← hB] at hfit hold hone
  have hll : (l.map bv).length = len * 1 := by rw [List.length_map]; omega
  have hcells : ∀ j u, (l.map bv)[j]? = some u → w.cell? (x.add j) = some u := by
    intro j u hu
    obtain ⟨a, e, hc⟩ := hs j u hu
    cases e
    exact hc
  have m1 : 0 + len ≤ maxLen := by unfold maxLen; omega
  have m2 : (0 + len) * 1 ≤ 140737488355328 := by omega
  subst hlen
  clear hp hB
  go_enter Try.func4, Try.ntmps4
  go_wp2_with (at_builtin; refine wpList_append_own _ rfl (.const (.slice none 0 0)) (.tmp 20) 28 rfl w.heap.size 5 i0 (.int .u8 0) 1 1 Try.underlying28 hi hz0 hz1 hz2 rfl (by decide) _ 0 [] rfl hown0 x l.length cap (l.map bv) rfl hll hcells (bv_ones l) m1 m2 (Nat.le_refl _) ?_; intro v1 w1 hown1 hgrow1 hnil)
  simp only [Nat.zero_add, List.nil_append] at hown1
  have hb1 : Below w.heap.size w w1 := (Below.refl _ _).grown hgrow1 (Nat.le_refl _) (by intro q hq; cases hq)
  obtain ⟨A1, c1, rfl, hc1, _, hs1, _⟩ := own_sl hown1
  clear hgrow1 hnil hown1 hown0 hcells hll
  have hsb := hs.below hb1
  go_wp2_with fail
  refine (H1.out _ _ _).mono ?_
  rintro e w3 ⟨rfl, rfl⟩
  go_wp2_with fail
  refine (H2.out _).mono ?_
  rintro e w3 ⟨rfl, rfl⟩
  go_wp2_with fail
  refine (H3.out _ _ _).mono ?_
  rintro e w3 ⟨rfl, rfl⟩
  have hll : ((l.length : Int) != (l.length : Int)) = false := by simp
  go_wp2_with fail
  refine (H4.out _).mono ?_
  rintro e w3 ⟨rfl, hb3⟩
  have hr3 := Row.new w3 23 (Array.replicate 8 (bv 0))
  go_wp2_with (first | (refine wpList_store_row rfl 23 _ _ rfl w3.heap.size B rfl rfl 23 _ hr3 hfit hold hone ?_))
  have hbW : Below w1.heap.size w1 ((w3.alloc (Obj.cells (Array.replicate 8 (bv 0)) 23)).setRow w3.heap.size B) := below_setRow (Below.and hb3 (alloc_below _ _)) hb3.size _
  have hs2 := hs1.below hbW
  have hs3 := hsb.below hbW
  clear hr3 hfit hold hone
  go_loopw [14] (fun i wr => ∃ k : Nat, k ≤ l.length ∧ i = .int .i64 k ∧ Sl wr A1 (l.map bv) ∧ Sl wr (some x) (l.map bv) ∧ Below w1.heap.size w1 wr) (fun i _ => l.length - (intOf i).toNat)
  case atStart => exact ⟨0, by omega, rfl, hs2, hs3, hbW⟩
  case round =>
    obtain ⟨k, hk, rfl, hr1, hr2, hbr⟩ := hrel
    clear hs2 hs3 hbW hs1 hsb
    by_cases hlt : k < l.length
    · obtain ⟨a, rfl, ha⟩ := hr1.at_ (i := k) (by simpa using hlt)
      have hx := hr2.some_ (i := k) (by simpa using hlt)
      rw [List.getElem_map] at ha hx
      unfold bv at ha hx
      have hne : ((l[k] : Int) != (l[k] : Int)) = false := by simp
      go_wp2
      go_roundw
      case rel => exact ⟨k + 1, by omega, by go_num, hr1, hr2, hbr⟩
      case measure => simp [intOf]; omega
    · go_wp2_with fail
      refine (known_any _).mono ?_
      rintro e w4 ⟨rfl, hb4⟩
      go_wp2
      go_ret
      exact ⟨rfl, Below.and hb1 (Below.and hbr hb4)⟩
theorem splice_lo {cur L : List Value} {k i : Nat} (h : i < k) (hk : k + L.length ≤ cur.length) : (splice cur k L)[i]? = cur[i]? := by
  unfold splice
  rw [List.getElem?_append_left (by rw [List.length_take]; omega), List.getElem?_take_of_lt h]
theorem splice_mid {cur L : List Value} {k i : Nat} (h1 : k ≤ i) (h2 : i < k + L.length) (hk : k + L.length ≤ cur.length) : (splice cur k L)[i]? = L[i - k]? := by
  have e : (cur.take k).length = k := by rw [List.length_take]; omega
  unfold splice
  rw [List.getElem?_append_right (by omega), e, List.getElem?_append_left (by omega)]
theorem splice_hi {cur L : List Value} {k i : Nat} (h1 : k + L.length ≤ i) (hk : k + L.length ≤ cur.length) : (splice cur k L)[i]? = cur[i]? := by
  have e : (cur.take k).length = k := by rw [List.length_take]; omega
  unfold splice
  rw [List.getElem?_append_right (by omega), e, List.getElem?_append_right (by omega), List.getElem?_drop]
  congr 1
  omega
set_option maxHeartbeats 1600000 in
set_option maxRecDepth 100000 in
theorem sets_yes (l : List Nat) (x : Addr) (len cap k n : Nat) (w : World) (hn : n < 18446744073709551616) (hlen : l.length = len) (hl : len ≤ 1000) (hc : len ≤ cap) (hp : k + 8 ≤ len) (hb : Byts l) (hs : Sl w (some x) (l.map bv)) :
    Calls Try.prog 4 #[.slice (some x) len cap, .int .i64 (k : Int), .int .u64 (n : Int)] w fun e w' => e = .returned (.bool true) ∧ Below w.heap.size w w' := by
  obtain ⟨i0, hi, hz0, hz1, hz2⟩ := info_parts info5
  have H1 := Lib.hid fun a c w hc hs => get_yes l a len c k w hlen (by omega) hc hp hb hs
  have H2 := Lib.hid fun w hs => refGet_yes l x len cap k w hlen (by omega) hp hb hs
  have H3 := Lib.hid fun cur g c B w0 w hc hcur hr hb hBg => set_yes cur g len c k n B w0 w (by omega) hc hp hcur hr hb hBg
  have hown0 := World.ownsRow_nil w w.heap.size 5 1
  have hfit := bytes8_fit n
  have hold := bytes8_old n
  have hone := bytes8_one n
  obtain ⟨B, hB⟩ : ∃ B, B = bytes8 n := ⟨_, rfl⟩
  have H4 := Lib.hid (refPut_as n B hn hB)
  rw [← hB] at hfit hold hone
  have HB := Lib.hid hB
  have hll : (l.map bv).length = len * 1 := by rw [List.length_map]; omega
  have hcells : ∀ j u, (l.map bv)[j]? = some u → w.cell? (x.add j) = some u := by
    intro j u hu
    obtain ⟨a, e, hc⟩ := hs j u hu
    cases e
    exact hc
  have m1 : 0 + len ≤ maxLen := by unfold maxLen; omega
  have m2 : (0 + len) * 1 ≤ 140737488355328 := by omega
  obtain ⟨L8, hL8⟩ : ∃ L8, L8 = (bytesN n).map bv := ⟨_, rfl⟩
  obtain ⟨Q, hQ⟩ : ∃ Q, Q = joinN ((l.drop k).take 8) := ⟨_, rfl⟩
  rw [← hQ] at H1 H2
  rw [← hL8] at H3
  have HL := Lib.hid hL8
  subst hlen
  clear hB hL8 hQ
  go_enter Try.func4, Try.ntmps4
  go_wp2_with (at_builtin; refine wpList_append_own _ rfl (.const (.slice none 0 0)) (.tmp 20) 28 rfl w.heap.size 5 i0 (.int .u8 0) 1 1 Try.underlying28 hi hz0 hz1 hz2 rfl (by decide) _ 0 [] rfl hown0 x l.length cap (l.map bv) rfl hll hcells (bv_ones l) m1 m2 (Nat.le_refl _) ?_; intro v1 w1 hown1 hgrow1 hnil)
  simp only [Nat.zero_add, List.nil_append] at hown1
  have hb1 : Below w.heap.size w w1 := (Below.refl _ _).grown hgrow1 (Nat.le_refl _) (by intro q hq; cases hq)
  obtain ⟨g, c1, cur, rfl, hgH, hgr, hc1, _, hcs, htk⟩ : ∃ g c1 cur, v1 = .slice (some ⟨g, 0, none⟩) l.length c1 ∧ w.heap.size ≤ g ∧ Row w1 g 5 cur ∧ l.length ≤ c1 ∧ c1 ≤ maxLen ∧ cur.size = c1 * 1 ∧ cur.toList.take (l.length * 1) = l.map bv := by
    rcases hown1.2 with ⟨_, h0⟩ | h
    · omega
    · exact h
  have hs1 : Sl w1 (some ⟨g, 0, none⟩) (l.map bv) := fun i u hu => ⟨_, rfl, hown1.cells rfl i u hu⟩
  clear hgrow1 hnil hown1 hown0 hcells hll
  have hsb := hs.below hb1
  rw [Nat.mul_one] at hcs htk
  have hcl : l.length ≤ cur.toList.length := by have := Array.length_toList (xs := cur); omega
  go_wp2_with fail
  refine (H1.out _ _ _ hc1 hs1).mono ?_
  rintro e w3 ⟨rfl, rfl⟩
  go_wp2_with fail
  refine (H2.out _ hsb).mono ?_
  rintro e w3 ⟨rfl, rfl⟩
  go_wp2_with fail
  refine (H3.out cur.toList g c1 w.heap.size w w1 hc1 hcl (by simpa using hgr) hb1 hgH).mono ?_
  rintro e w5 ⟨rfl, hr5, hb5⟩
  have hs5 := hs.below hb5
  have hqq : ((Q : Int) != (Q : Int)) = false := by simp
  have hll : ((l.length : Int) != (l.length : Int)) = false := by simp
  go_wp2_with fail
  refine (H4.out _).mono ?_
  rintro e w3 ⟨rfl, hb3⟩
  have hr3 := Row.new w3 23 (Array.replicate 8 (bv 0))
  have hr5' := hr5.below hb3 hr5.lt
  have hs5' := hs5.below hb3
  go_wp2_with (first | (refine wpList_store_row rfl 23 _ _ rfl w3.heap.size B rfl rfl 23 _ hr3 hfit hold hone ?_))
  have hbx : Below w3.heap.size w3 ((w3.alloc (Obj.cells (Array.replicate 8 (bv 0)) 23)).setRow w3.heap.size B) := below_setRow (alloc_below _ _) (Nat.le_refl _) _
  have hbW := Below.and hb5 (Below.and hb3 hbx)
  have hrB := hr3.setRow B
  have hrO := hr5'.below hbx hr5'.lt
  have hsX := hs5'.below hbx
  have hL8 : L8.length = 8 := by rw [HL.out, List.length_map, bytesN_length]
  have hkL : k + L8.length ≤ cur.toList.length := by omega
  have hcur : ∀ i (h : i < l.length), cur.toList[i]? = some (bv l[i]) := by
    intro i h
    have e : (cur.toList.take l.length)[i]? = (l.map bv)[i]? := by rw [htk]
    rw [List.getElem?_take_of_lt h] at e
    rw [e, List.getElem?_map, List.getElem?_eq_getElem h]
    rfl
  have hlo : ∀ i (h : i < l.length), i < k ∨ k + 8 ≤ i → (splice cur.toList k L8).toArray[i]? = some (bv l[i]) := by
    intro i h hi
    rw [List.getElem?_toArray]
    rcases hi with hi | hi
    · rw [splice_lo hi hkL, hcur i h]
    · rw [splice_hi (by omega) hkL, hcur i h]
  have hmid : ∀ i, k ≤ i → i < k + 8 → (splice cur.toList k L8).toArray[i]? = some (bv (byt n (i - k))) := by
    intro i h1 h2
    rw [List.getElem?_toArray, splice_mid h1 (by omega) hkL, HL.out, List.getElem?_map]
    have h3 : i - k < 8 := by omega
    simp [bytesN, h3]
  have hmw : ∀ i, k ≤ i → i < k + 8 → B[i - k]? = some (bv (byt n (i - k))) := by
    intro i h1 h2
    rw [HB.out]
    exact bytes8_get n _ (by omega)
  obtain ⟨S5, hS5⟩ : ∃ S5, S5 = (splice cur.toList k L8).toArray := ⟨_, rfl⟩
  rw [← hS5] at hrO hlo hmid
  have HLO := Lib.hid hlo
  have HMID := Lib.hid hmid
  have HMW := Lib.hid hmw
  clear hS5 hlo hmid hmw hcur hL8 hkL hcs htk hcl hs1 hsb hr5 hr5' hs5 hs5' hb3 hb5 hbx hr3 hqq hll hfit hold hone hb1 hs H3
  go_loopw [14] (fun i wr => ∃ j : Nat, j ≤ l.length ∧ i = .int .i64 j ∧ Row wr g 5 S5 ∧ Row wr w3.heap.size 23 B ∧ Sl wr (some x) (l.map bv) ∧ Below w.heap.size w wr) (fun i _ => l.length - (intOf i).toNat)
  case atStart => exact ⟨0, by omega, rfl, hrO, hrB, hsX, hbW⟩
  case round =>
    obtain ⟨j, hj, rfl, hr1, hr2, hx, hbr⟩ := hrel
    clear hrO hrB hsX hbW
    by_cases hlt : j < l.length
    · have hcx := hx.some_ (i := j) (by simpa using hlt)
      rw [List.getElem_map] at hcx
      have hco := hr1.cell j
      by_cases h1 : j < k
      · rw [HLO.out j hlt (.inl h1)] at hco
        unfold bv at hcx hco
        have hne : ((l[j] : Int) != (l[j] : Int)) = false := by simp
        go_wp2
        go_roundw
        case rel => exact ⟨j + 1, by omega, by go_num, hr1, hr2, hx, hbr⟩
        case measure => simp [intOf]; omega
      · by_cases h2 : k + 8 ≤ j
        · rw [HLO.out j hlt (.inr h2)] at hco
          unfold bv at hcx hco
          have hne : ((l[j] : Int) != (l[j] : Int)) = false := by simp
          go_wp2
          go_roundw
          case rel => exact ⟨j + 1, by omega, by go_num, hr1, hr2, hx, hbr⟩
          case measure => simp [intOf]; omega
        · have hcw := hr2.cell (j - k)
          rw [HMW.out j (by omega) (by omega)] at hcw
          rw [HMID.out j (by omega) (by omega)] at hco
          obtain ⟨q, hq⟩ : ∃ q, q = byt n (j - k) := ⟨_, rfl⟩
          rw [← hq] at hcw hco
          clear hq
          unfold bv at hcx hco hcw
          have hne : ((q : Int) != (q : Int)) = false := by simp
          have hd0 : 0 ≤ (j : Int) - (k : Int) := by omega
          have hd1 : (j : Int) - (k : Int) < 8 := by omega
          go_wp2
          go_roundw
          case rel => exact ⟨j + 1, by omega, by go_num, hr1, hr2, hx, hbr⟩
          case measure => simp [intOf]; omega
    · go_wp2_with fail
      refine (known_any _).mono ?_
      rintro e w4 ⟨rfl, hb4⟩
      go_wp2
      go_ret
      exact ⟨rfl, Below.and hbr hb4⟩
theorem sets_all (A : Option Addr) (len cap : Nat) (zs : List Int) (p : Int) (a : Int) (w : World) (h0 : InRow .u8 w A len cap zs) (_ : (Lit.int .i64 p).wf = true) (h2 : (Lit.int .u64 a).wf = true) :
    Calls Try.prog 4 #[.slice A len cap, .int .i64 p, .int .u64 a] w fun e w' => e = .returned (.bool true) ∧ Below w.heap.size w w' := by
  obtain ⟨n, rfl, hn⟩ := wf_nat h2
  obtain ⟨l, hlen, hb, hs, hc, hnil⟩ := h0.read wf_byte
  have hs' : Sl w A (l.map bv) := hs
  by_cases hl : 1000 < len
  · exact sets_long A len cap p n w hl
  · rcases A with _ | x
    · obtain ⟨rfl, rfl⟩ := hnil rfl
      exact sets_none p n w hn
    · by_cases hp : p < 0 ∨ (len : Int) - 8 < p
      · exact sets_no l x len cap p n w hn hlen (by omega) hp hs'
      · obtain ⟨k, rfl⟩ := Int.eq_ofNat_of_zero_le (show 0 ≤ p by omega)
        exact sets_yes l x len cap k n w hn hlen (by omega) hc (by omega) hb hs'
end Go.Proofs.Ytjpdmdplcecglaa
