/- A word's bytes as a list; the document's own reading of a word; Set: what each turns and answers. For words below 2^64 and places at which eight bytes stand. -/
import Derived.Test.YtjpdmdplcecglaaKnown
namespace Go.Proofs.Ytjpdmdplcecglaa
open Go.RowKit
set_option linter.unusedVariables false
def bytesN (n : Nat) : List Nat := (List.range 8).map (byt n)
theorem bytesN_length (n : Nat) : (bytesN n).length = 8 := by simp [bytesN]
theorem bytesN_byts (n : Nat) : Byts (bytesN n) := by
  intro b hb
  simp only [bytesN, List.mem_map] at hb
  obtain ⟨i, _, rfl⟩ := hb
  exact byt_lt n i
theorem bytesN_join (n : Nat) (hn : n < 18446744073709551616) : joinN (bytesN n) = n := by
  have e : bytesN n = [byt n 0, byt n 1, byt n 2, byt n 3, byt n 4, byt n 5, byt n 6, byt n 7] := rfl
  rw [e]
  simp only [joinN, byt, up]
  omega
theorem bytes8_list (n : Nat) : bytes8 n = ((bytesN n).map bv).toArray := by
  apply Array.ext
  · simp [bytes8, bytesN]
  · intro i h1 h2
    simp [bytes8, bytesN]
theorem row_sl {w : World} {g : Nat} {t : TypeId} {l : List Nat} {f : Nat → Value} (h : Row w g t (l.map f).toArray) : Sl w (some ⟨g, 0, none⟩) (l.map f) := by
  intro i u hu
  refine ⟨_, rfl, ?_⟩
  have e : (⟨g, 0, none⟩ : Addr).add i = ⟨g, i, none⟩ := by unfold Addr.add; split <;> simp_all
  rw [e, h.cell]
  simpa using hu

theorem joinTake_succ (l : List Nat) (k j : Nat) (hj : j < 8) (h : k + 8 ≤ l.length) :
    joinN ((l.drop (k + 8 - (j + 1))).take (j + 1)) = (l[k + 8 - (j + 1)]'(by omega)) + 256 * joinN ((l.drop (k + 8 - j)).take j) := by
  have e : l.drop (k + 8 - (j + 1)) = (l[k + 8 - (j + 1)]'(by omega)) :: l.drop (k + 8 - j) := by
    rw [List.drop_eq_getElem_cons (by omega)]
    rw [show k + 8 - (j + 1) + 1 = k + 8 - j from by omega]
  rw [e, List.take_succ_cons, joinN]
set_option maxHeartbeats 400000 in
theorem take_any (l : List Nat) (a : Addr) (len cap k : Nat) (w : World) (hlen : l.length = len) (hl : len ≤ 1000000) (h : k + 8 ≤ len) (hb : Byts l) (hs : Sl w (some a) (l.map bv)) :
    Calls Try.prog 32 #[.slice (some a) len cap, .int .i64 (k : Int)] w fun e w' => e = .returned (.int .u64 (joinN ((l.drop k).take 8))) ∧ w = w' := by
  subst hlen
  go_enter Try.func32, Try.ntmps32
  go_wp2
  go_loop [5, 6] (fun q i => ∃ j : Nat, j ≤ 8 ∧ q = .int .u64 (joinN ((l.drop (k + 8 - j)).take j)) ∧ i = .int .i64 (7 - (j : Int))) (fun _ i => (intOf i + 1).toNat)
  case atStart => exact ⟨0, by omega, by simp [joinN], rfl⟩
  case round =>
    obtain ⟨j, hj, rfl, rfl⟩ := hrel
    by_cases hlt : j < 8
    · have hx := joinN_lt ((l.drop (k + 8 - j)).take j) (fun b h => hb b (List.mem_of_mem_drop (List.mem_of_mem_take h)))
      have hlj : ((l.drop (k + 8 - j)).take j).length = j := by rw [List.length_take, List.length_drop]; omega
      rw [hlj] at hx
      have hp := pow_le8 (k := j + 1) (by omega)
      have hp2 : 256 ^ (j + 1) = 256 * 256 ^ j := by rw [Nat.pow_succ, Nat.mul_comm]
      have hq := joinTake_succ l k j hlt h
      obtain ⟨Q, hQ⟩ : ∃ Q, Q = joinN ((l.drop (k + 8 - j)).take j) := ⟨_, rfl⟩
      rw [← hQ] at hx hq ⊢
      have hx2 : Q * 256 + 255 < 18446744073709551616 := by omega
      have hc := hs.some_ (i := k + 8 - (j + 1)) (by rw [List.length_map]; omega)
      rw [List.getElem_map] at hc
      obtain ⟨b, hbe⟩ : ∃ b, b = l[k + 8 - (j + 1)]'(by omega) := ⟨_, rfl⟩
      have hb256 : b < 256 := by rw [hbe]; exact hb _ (List.getElem_mem _)
      rw [← hbe] at hc hq
      have HQ := Lib.hid hq
      clear hp hp2 hx hQ hlj hq hbe
      have e1 : k + 8 - (j + 1) = k + (7 - j) := by omega
      rw [e1] at hc
      unfold bv at hc
      go_wp2
      go_round
      case rel => exact ⟨j + 1, by omega, by rw [HQ.out]; go_num, by go_num⟩
      case measure => simp [intOf]; omega
    · have hj8 : j = 8 := by omega
      subst hj8
      go_wp2
      go_ret
      exact ⟨rfl, rfl⟩

set_option maxHeartbeats 400000 in
theorem refGet_no (A : Option Addr) (len cap : Nat) (p : Int) (w : World) (hl : len ≤ 1000000) (h : p < 0 ∨ (len : Int) - 8 < p) :
    Calls Try.prog 17 #[.slice A len cap, .int .i64 p] w fun e w' => e = .returned (.tuple #[.int .u64 0, .int .i64 3]) ∧ w = w' := by
  by_cases h0 : p < 0
  · go_enter Try.func17, Try.ntmps17
    go_wp2
    go_ret2
    exact ⟨rfl, rfl⟩
  · by_cases h1 : (len : Int) ≤ p
    · go_enter Try.func17, Try.ntmps17
      go_wp2
      go_ret2
      exact ⟨rfl, rfl⟩
    · have h2 : (len : Int) - p < 8 := by omega
      have h3 : 0 ≤ p := by omega
      go_enter Try.func17, Try.ntmps17
      go_wp2
      go_ret2
      exact ⟨rfl, rfl⟩
set_option maxHeartbeats 400000 in
theorem refGet_yes (l : List Nat) (a : Addr) (len cap k : Nat) (w : World) (hlen : l.length = len) (hl : len ≤ 1000000) (h : k + 8 ≤ len) (hb : Byts l) (hs : Sl w (some a) (l.map bv)) :
    Calls Try.prog 17 #[.slice (some a) len cap, .int .i64 (k : Int)] w fun e w' => e = .returned (.tuple #[.int .u64 (joinN ((l.drop k).take 8)), .int .i64 0]) ∧ w = w' := by
  have H := Lib.hid (take_any l a len cap k w hlen hl h hb hs)
  have h1 : ¬ (len : Int) ≤ (k : Int) := by omega
  have h2 : ¬ (len : Int) - (k : Int) < 8 := by omega
  obtain ⟨Q, hQ⟩ : ∃ Q, Q = joinN ((l.drop k).take 8) := ⟨_, rfl⟩
  rw [← hQ] at H ⊢
  clear hQ hs
  go_enter Try.func17, Try.ntmps17
  go_wp2_with fail
  refine H.out.mono ?_
  rintro e w1 ⟨rfl, rfl⟩
  go_wp2
  go_ret2
  exact ⟨rfl, rfl⟩
set_option maxHeartbeats 400000 in
theorem set_no (A : Option Addr) (len cap : Nat) (p : Int) (n : Nat) (w : World) (hl : len ≤ 1000000) (h : p < 0 ∨ (len : Int) - 8 < p) :
    Calls Try.prog 18 #[.slice A len cap, .int .i64 p, .int .u64 (n : Int)] w fun e w' => e = .returned (.int .i64 3) ∧ w = w' := by
  have H := Lib.hid (piece_no A len cap p w (by omega) h)
  clear h
  go_enter Try.func18, Try.ntmps18
  go_wp2_with fail
  refine H.out.mono ?_
  rintro e w1 ⟨rfl, rfl⟩
  go_wp2
  go_ret
  exact ⟨rfl, rfl⟩
theorem add_lit (g k : Nat) : (⟨g, 0, none⟩ : Addr).add k = ⟨g, k, none⟩ := by unfold Addr.add; split <;> simp_all
theorem size5 : (Try.prog.info? 5).map (·.size) = some 1 := by kernel_rfl
set_option maxHeartbeats 400000 in
theorem set_yes (cur : List Value) (g len cap k n B : Nat) (w0 w : World) (hl : len ≤ 1000000) (hc : len ≤ cap) (h : k + 8 ≤ len) (hcur : len ≤ cur.length) (hr : Row w g 5 cur.toArray) (hb : Below B w0 w) (hBg : B ≤ g) :
    Calls Try.prog 18 #[.slice (some ⟨g, 0, none⟩) len cap, .int .i64 (k : Int), .int .u64 (n : Int)] w fun e w' => e = .returned (.int .i64 0) ∧ Row w' g 5 (splice cur k ((bytesN n).map bv)).toArray ∧ Below B w0 w' := by
  have H := Lib.hid (piece_yes ⟨g, 0, none⟩ len cap k w (by omega) hc h)
  have hfit := bytes8_fit n
  have hold := bytes8_old n
  have hone := bytes8_one n
  obtain ⟨A8, hA8⟩ : ∃ A8, A8 = bytes8 n := ⟨_, rfl⟩
  rw [← hA8] at hfit hold hone
  have HA := Lib.hid hA8
  clear hA8
  obtain ⟨L8, hL8⟩ : ∃ L8, L8 = (bytesN n).map bv := ⟨_, rfl⟩
  rw [← hL8]
  have HL := Lib.hid hL8
  clear hL8
  go_enter Try.func18, Try.ntmps18
  go_wp2_with fail
  refine H.out.mono ?_
  rintro e w1 ⟨rfl, rfl⟩
  go_wp2_with fail
  refine (put_any n _).mono ?_
  rintro e w2 ⟨rfl, hb2⟩
  rw [← HA.out]
  have hr2 := hr.below hb2 hr.lt
  have hb3 : Below B w0 w2 := hb.trans (hb2.mono (by have := hr.lt; omega))
  have hr3 := Row.new w2 23 (Array.replicate 8 (bv 0))
  have hlt : g ≠ w2.heap.size := by have := hr2.lt; omega
  have hr4 : Row ((w2.alloc (.cells (Array.replicate 8 (bv 0)) 23)).setRow w2.heap.size A8) g 5 cur.toArray := (setRow_other _ _ _ _ hlt).trans (hr2.alloc _)
  have hb4 : Below B w0 ((w2.alloc (.cells (Array.replicate 8 (bv 0)) 23)).setRow w2.heap.size A8) := below_setRow (hb3.alloc (by have := hr2.lt; omega) _) (by have := hr2.lt; omega) _
  have hcells : ∀ j v, L8[j]? = some v → ((w2.alloc (.cells (Array.replicate 8 (bv 0)) 23)).setRow w2.heap.size A8).cell? ((⟨w2.heap.size, 0, none⟩ : Addr).add j) = some v := by
    have hrow := hr3.setRow A8
    intro j v hv
    rw [add_lit, hrow.cell, HA.out, bytes8_list, ← HL.out]
    simpa using hv
  have hL8 : L8.length = Nat.min 8 8 := by rw [HL.out, List.length_map, bytesN_length]; rfl
  have hfit2 : k + L8.length ≤ cur.length := by rw [hL8]; show k + 8 ≤ _; omega
  have hone2 : ∀ v ∈ L8, v.oneCell' = true := by rw [HL.out]; exact bv_ones _
  go_wp2_with (first | (refine wpList_store_row rfl 23 _ _ rfl w2.heap.size A8 rfl rfl 23 _ hr3 hfit hold hone ?_) | (refine wpList_copy_splice rfl (.tmp 21) (.tmp 22) 28 28 rfl 5 Try.underlying28 size5 (some ⟨g, k, none⟩) (some ⟨w2.heap.size, 0, none⟩) 8 8 8 8 rfl rfl g k cur 5 hr4 L8 hL8 (fun _ => ⟨rfl, _, rfl, hcells⟩) hfit2 hone2 B w0 hb4 hBg ?_; intro w5 hr5 hb5))
  go_ret
  exact ⟨rfl, hr5.out, hb5⟩
end Go.Proofs.Ytjpdmdplcecglaa
