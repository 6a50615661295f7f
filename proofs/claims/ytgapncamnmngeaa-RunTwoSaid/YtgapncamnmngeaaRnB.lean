/- The reference's Image: the bytes of a memory of noughts behind the first of some stores; for stores that may be. -/
import Derived.Test.YtgapncamnmngeaaRnI
import Derived.Test.YtgapncamnmngeaaRnW
import Derived.Test.YtgapncamnmngeaaPBytes
namespace Go.Proofs.Ytgapncamnmngeaa
open Go.RowKit Go.Shelf
set_option linter.unusedVariables false

/-- Bytes of words, of which the word i has turned into v in its first k bytes. -/
def pb (ws : List Nat) (i v : Nat) : Nat → List Nat
  | 0 => bytesL ws
  | k + 1 => (pb ws i v k).set (8 * i + k) (wbyt v k)
theorem pb_length (ws : List Nat) (i v k : Nat) : (pb ws i v k).length = 8 * ws.length := by
  induction k with
  | zero => exact bytesL_length ws
  | succ k ih => unfold pb; rw [List.length_set, ih]
theorem bytesL_get (ws : List Nat) (q : Nat) (hq : q < 8 * ws.length) : (bytesL ws)[q]? = some (wbyt (ws.getD (q / 8) 0) (q % 8)) := by
  induction ws generalizing q with
  | nil => simp at hq
  | cons x t ih =>
    have e : bytesL (x :: t) = wbytes x ++ bytesL t := rfl
    rw [e]
    by_cases h : q < 8
    · rw [List.getElem?_append_left (by rw [wbytes_length]; exact h), Nat.div_eq_of_lt h, Nat.mod_eq_of_lt h]
      unfold wbytes
      rw [List.getElem?_map, List.getElem?_range h]
      rfl
    · rw [List.getElem?_append_right (by rw [wbytes_length]; omega), wbytes_length, ih (q - 8) (by simp only [List.length_cons] at hq; omega)]
      have h1 : q / 8 = (q - 8) / 8 + 1 := by omega
      have h2 : q % 8 = (q - 8) % 8 := by omega
      rw [h1, h2]
      rfl
theorem pb_get (ws : List Nat) (i v k q : Nat) (hk : k ≤ 8) (hq : q < 8 * ws.length) : (pb ws i v k)[q]? = some (if q / 8 = i ∧ q % 8 < k then wbyt v (q % 8) else wbyt (ws.getD (q / 8) 0) (q % 8)) := by
  induction k with
  | zero =>
    rw [if_neg (by omega)]
    exact bytesL_get ws q hq
  | succ k ih =>
    unfold pb
    rw [List.getElem?_set, ih (by omega)]
    by_cases e : 8 * i + k = q
    · have e1 : q / 8 = i := by omega
      have e2 : q % 8 = k := by omega
      rw [if_pos e, if_pos (by rw [pb_length]; omega), if_pos ⟨e1, by omega⟩, e2]
    · rw [if_neg e]
      by_cases e1 : q / 8 = i ∧ q % 8 < k
      · rw [if_pos e1, if_pos ⟨e1.1, by omega⟩]
      · rw [if_neg e1, if_neg (by omega)]
theorem pb_all (ws : List Nat) (i v : Nat) (hi : i < ws.length) : pb ws i v 8 = bytesL (ws.set i v) := by
  apply List.ext_getElem?
  intro q
  by_cases hq : q < 8 * ws.length
  · rw [pb_get ws i v 8 q (by omega) hq, bytesL_get _ q (by rw [List.length_set]; exact hq), set_gd]
    by_cases e : q / 8 = i
    · rw [if_pos ⟨e, by omega⟩, if_pos ⟨e.symm, by omega⟩]
    · rw [if_neg (by omega), if_neg (fun h => e h.1.symm)]
  · rw [List.getElem?_eq_none (by rw [pb_length]; omega), List.getElem?_eq_none (by rw [bytesL_length, List.length_set]; omega)]
set_option maxRecDepth 100000 in
set_option maxHeartbeats 1600000 in
theorem img_any {w : World} {V : Value} {l : List (Nat × Nat)} (h : Ahead w V l) {nl many : Nat} (h1 : nl ≤ 16) (hm : many ≤ l.length) (hm9 : many ≤ 1000000) (hx : ∀ p ∈ l, p.1 % 8 = 0 ∧ p.1 < 64 * nl ∧ p.2 < 18446744073709551616) :
    Calls Try.prog 17 #[.int .i64 ((64 * nl : Nat) : Int), V, .int .i64 (many : Int)] w (BytesPost w (bytesL (vw nl (l.take many)))) := by
  obtain ⟨i0, hi, hz0, hz1, hz2⟩ := info_parts info5
  obtain ⟨A, cap, rfl, hlc, hcm⟩ := h.len
  have H := Lib.hid h
  have HX := Lib.hid hx
  clear h hx
  have m0 : i0.bytes ≠ 0 := by rw [hz2]; decide
  have m1 : 64 * nl ≤ maxLen := by unfold maxLen; omega
  obtain ⟨N, hN⟩ : ∃ N, N = 64 * nl := ⟨_, rfl⟩
  rw [← hN] at m1
  have hN1 : N ≤ 1024 := by omega
  have HN := Lib.hid hN
  rw [← hN]
  clear hN
  have hm2 := fun W : World => run_make (P := Try.prog) W 42 5 i0 _ Try.underlying42 hi hz0 .i64 .i64 ((N : Nat) : Int) ((N : Nat) : Int) (by omega) (by omega) (by rw [hz2]; omega) (by omega)
  simp only [Int.toNat_natCast, hz1] at hm2
  obtain ⟨W1, hW1⟩ : ∃ W1, W1 = w.alloc (.cells (madeCells #[.int .u8 0] N) 5) := ⟨_, rfl⟩
  have hown1 : W1.ownsRow w.heap.size 5 1 (.slice (some ⟨w.heap.size, 0, none⟩) N N) N ((bytesL (vw nl [])).map bv) := by
    have hz : (bytesL (vw nl [])).map bv = List.replicate N (.int .u8 0) := by
      apply List.ext_getElem?
      intro q
      rw [List.getElem?_map]
      by_cases hq : q < N
      · rw [bytesL_get _ q (by rw [vw_length]; have := HN.out; omega), List.getElem?_replicate, if_pos hq]
        have : (vw nl []).getD (q / 8) 0 = 0 := by
          unfold vw lastW
          rw [List.foldl_nil, List.getD_eq_getElem?_getD, List.getElem?_replicate]
          split <;> rfl
        rw [this]
        unfold wbyt bv
        simp
      · rw [List.getElem?_eq_none (by rw [bytesL_length, vw_length]; have := HN.out; omega), List.getElem?_replicate, if_neg hq]
        rfl
    rw [hz, hW1, madeCells_one]
    exact ⟨by simp, .inr ⟨w.heap.size, N, _, rfl, Nat.le_refl _, heap_alloc_new w _, Nat.le_refl _, m1, by simp, by simp⟩⟩
  have hb1 : Below w.heap.size w W1 := by rw [hW1]; exact alloc_below _ _
  have HO1 := Lib.hid hown1
  have HB1 := Lib.hid hb1
  clear hown1 hb1
  go_enter Try.func17, Try.ntmps17
  go_wp2_with fail
  rw [← hW1]
  clear hW1 hm2
  go_loopw [8] (fun i wr => ∃ k : Nat, k ≤ many ∧ i = .int .i64 (k : Int) ∧ wr.ownsRow w.heap.size 5 1 (.slice (some ⟨w.heap.size, 0, none⟩) N N) N ((bytesL (vw nl (l.take k))).map bv) ∧ Below w.heap.size w wr) (fun i _ => many - (intOf i).toNat)
  case atStart => exact ⟨0, Nat.zero_le _, rfl, HO1.out, HB1.out⟩
  case round =>
    rename World => wr
    obtain ⟨k, hk, rfl, hown, hb⟩ := hrel
    by_cases hlt : k < many
    · have hkl : k < l.length := by omega
      obtain ⟨g, off, cap', he, hc0, hc1⟩ := (H.out.below hb).at_ (k := k) hkl
      injection he with he1 _ he3
      subst he1 he3
      have hxx := HX.out _ (List.getElem_mem hkl)
      obtain ⟨a, ha⟩ : ∃ a, a = l[k].1 := ⟨_, rfl⟩
      obtain ⟨v, hv⟩ : ∃ v, v = l[k].2 := ⟨_, rfl⟩
      have HTN := Lib.hid (show l.take (k + 1) = l.take k ++ [(a, v)] from by
        rw [List.take_succ_eq_append_getElem hkl, ha, hv])
      rw [← ha] at hc0 hxx
      rw [← hv] at hc1 hxx
      obtain ⟨h8, h64, hv64⟩ := hxx
      obtain ⟨ws, hws⟩ : ∃ ws, ws = vw nl (l.take k) := ⟨_, rfl⟩
      have hwl : ws.length = 8 * nl := by rw [hws, vw_length]
      rw [← hws] at hown
      have HWS := Lib.hid hws
      have hgw : g < w.heap.size := H.out.lt (fun e => by rw [e] at hkl; cases hkl) rfl
      have HO := Lib.hid hown
      have HB := Lib.hid hb
      have HC0 := Lib.hid (show w.cell? ⟨g, off + k * 2, none⟩ = some (.int .u64 (a : Int)) from by
        rw [← hc0]
        exact (hb.cell (p := ⟨g, off + k * 2, none⟩) hgw).symm)
      have hkm : decide ((k : Int) < (many : Int)) = true := by rw [decide_eq_true_eq]; omega
      clear ha hv hws hown hb hc0
      go_wp2_with fail
      go_loopw [9, 10] (fun nn kk wq => ∃ q : Nat, q ≤ 8 ∧ kk = .int .i64 (q : Int) ∧ nn = .int .u64 ((v / 256 ^ q : Nat) : Int) ∧ wq.ownsRow w.heap.size 5 1 (.slice (some ⟨w.heap.size, 0, none⟩) N N) N ((pb ws (a / 8) v q).map bv) ∧ Below w.heap.size w wq) (fun _ kk _ => 8 - (intOf kk).toNat)
      case atStart => exact ⟨0, by omega, rfl, by simp, HO.out, HB.out⟩
      case round =>
        rename World => wq
        obtain ⟨q, hq, rfl, rfl, hown2, hb2⟩ := hrel
        by_cases hq8 : q < 8
        · have hc2 := (hb2.cell (p := ⟨g, off + k * 2, none⟩) hgw).trans HC0.out
          have hcv := hown2.cellAt (a + q) (by have := HN.out; omega)
          have hfz := hown2.frozenAt (a + q)
          have hlen := pb_length ws (a / 8) v q
          have haq : a + q < N := by have := HN.out; omega
          rw [List.getElem?_map, List.getElem?_eq_getElem (by rw [hlen, hwl]; have := HN.out; omega)] at hcv
          simp only [Option.map_some] at hcv
          unfold bv at hcv
          have HST := Lib.hid (hown2.stored (a + q) (bv (wbyt v q)))
          have h1' : IntKind.i64.wrap (a : Int) = (a : Int) := by rw [IntKind.wrap_i64]; omega
          have h2' : IntKind.i64.wrap ((a : Int) + (q : Int)) = ((a + q : Nat) : Int) := by rw [IntKind.wrap_i64]; omega
          obtain ⟨x, hx⟩ : ∃ x, x = v / 256 ^ q := ⟨_, rfl⟩
          have hxlt : x < 18446744073709551616 := by
            have := Nat.div_le_self v (256 ^ q)
            omega
          have HXE := Lib.hid (show wbyt v q = x % 256 from by rw [hx]; rfl)
          have HXN := Lib.hid (show v / 256 ^ (q + 1) = x / 256 from by rw [hx, Nat.pow_succ, Nat.div_div_eq_div_mul])
          rw [← hx]
          have h3' : IntKind.u8.wrap (x : Int) = ((x % 256 : Nat) : Int) := by rw [IntKind.wrap_u8]; omega
          have h4' : IntKind.u64.wrap ((x : Int) / 256) = ((x / 256 : Nat) : Int) := by rw [IntKind.wrap_u64]; omega
          have HPB := Lib.hid (show pb ws (a / 8) v (q + 1) = (pb ws (a / 8) v q).set (a + q) (wbyt v q) from by
            show (pb ws (a / 8) v q).set (8 * (a / 8) + q) _ = _
            rw [show 8 * (a / 8) + q = a + q from by omega])
          have hq8' : decide ((q : Int) < 8) = true := by rw [decide_eq_true_eq]; omega
          clear hx
          go_wp2
          have hb3 : Below w.heap.size w (wq.setCell ⟨w.heap.size, a + q, none⟩ (.int .u8 ((x : Int) % 256))) := hb2.setCell (p := ⟨w.heap.size, a + q, none⟩) (Nat.le_refl _) _
          refine ⟨⟨q + 1, by omega, by go_num, by rw [HXN.out]; rfl, ?_, hb3⟩, by simp only [intOf]; omega⟩
          have h5 := HST.out.1
          rw [HPB.out, List.map_set]
          rw [show bv (wbyt v q) = .int .u8 ((x : Int) % 256) from by rw [HXE.out]; rfl] at h5 ⊢
          exact h5
        · obtain rfl : q = 8 := by omega
          have HO2 := Lib.hid hown2
          have HB2 := Lib.hid hb2
          clear hown2 hb2
          go_wp2
          refine ⟨⟨k + 1, by omega, by go_num, ?_, HB2.out⟩, by simp only [intOf]; omega⟩
          rw [HTN.out]
          have e : vw nl (l.take k ++ [(a, v)]) = ws.set (a / 8) v := by
            unfold vw
            rw [lastW_snoc, HWS.out]
            rfl
          rw [e, ← pb_all ws (a / 8) v (by omega)]
          exact HO2.out
    · obtain rfl : k = many := by omega
      have HO := Lib.hid hown
      have HB := Lib.hid hb
      clear hown hb
      go_wp2
      go_ret
      refine ⟨⟨_, rfl, ?_⟩, HB.out⟩
      rw [bytesL_length, vw_length]
      rw [show 8 * (8 * nl) = N from by have := HN.out; omega]
      exact HO.out
set_option maxRecDepth 100000 in
set_option maxHeartbeats 1600000 in
theorem img_upto {w : World} {V : Value} {l : List (Nat × Nat)} (h : Ahead w V l) {nl many : Nat} (h1 : nl ≤ 16) (hm : many ≤ l.length) (hm9 : many ≤ 1000000) (hx : ∀ k (hk : k < l.length), k < many → l[k].1 % 8 = 0 ∧ l[k].1 < 64 * nl ∧ l[k].2 < 18446744073709551616) :
    Calls Try.prog 17 #[.int .i64 ((64 * nl : Nat) : Int), V, .int .i64 (many : Int)] w (BytesPost w (bytesL (vw nl (l.take many)))) := by
  obtain ⟨i0, hi, hz0, hz1, hz2⟩ := info_parts info5
  obtain ⟨A, cap, rfl, hlc, hcm⟩ := h.len
  have H := Lib.hid h
  have HX := Lib.hid hx
  clear h hx
  have m0 : i0.bytes ≠ 0 := by rw [hz2]; decide
  have m1 : 64 * nl ≤ maxLen := by unfold maxLen; omega
  obtain ⟨N, hN⟩ : ∃ N, N = 64 * nl := ⟨_, rfl⟩
  rw [← hN] at m1
  have hN1 : N ≤ 1024 := by omega
  have HN := Lib.hid hN
  rw [← hN]
  clear hN
  have hm2 := fun W : World => run_make (P := Try.prog) W 42 5 i0 _ Try.underlying42 hi hz0 .i64 .i64 ((N : Nat) : Int) ((N : Nat) : Int) (by omega) (by omega) (by rw [hz2]; omega) (by omega)
  simp only [Int.toNat_natCast, hz1] at hm2
  obtain ⟨W1, hW1⟩ : ∃ W1, W1 = w.alloc (.cells (madeCells #[.int .u8 0] N) 5) := ⟨_, rfl⟩
  have hown1 : W1.ownsRow w.heap.size 5 1 (.slice (some ⟨w.heap.size, 0, none⟩) N N) N ((bytesL (vw nl [])).map bv) := by
    have hz : (bytesL (vw nl [])).map bv = List.replicate N (.int .u8 0) := by
      apply List.ext_getElem?
      intro q
      rw [List.getElem?_map]
      by_cases hq : q < N
      · rw [bytesL_get _ q (by rw [vw_length]; have := HN.out; omega), List.getElem?_replicate, if_pos hq]
        have : (vw nl []).getD (q / 8) 0 = 0 := by
          unfold vw lastW
          rw [List.foldl_nil, List.getD_eq_getElem?_getD, List.getElem?_replicate]
          split <;> rfl
        rw [this]
        unfold wbyt bv
        simp
      · rw [List.getElem?_eq_none (by rw [bytesL_length, vw_length]; have := HN.out; omega), List.getElem?_replicate, if_neg hq]
        rfl
    rw [hz, hW1, madeCells_one]
    exact ⟨by simp, .inr ⟨w.heap.size, N, _, rfl, Nat.le_refl _, heap_alloc_new w _, Nat.le_refl _, m1, by simp, by simp⟩⟩
  have hb1 : Below w.heap.size w W1 := by rw [hW1]; exact alloc_below _ _
  have HO1 := Lib.hid hown1
  have HB1 := Lib.hid hb1
  clear hown1 hb1
  go_enter Try.func17, Try.ntmps17
  go_wp2_with fail
  rw [← hW1]
  clear hW1 hm2
  go_loopw [8] (fun i wr => ∃ k : Nat, k ≤ many ∧ i = .int .i64 (k : Int) ∧ wr.ownsRow w.heap.size 5 1 (.slice (some ⟨w.heap.size, 0, none⟩) N N) N ((bytesL (vw nl (l.take k))).map bv) ∧ Below w.heap.size w wr) (fun i _ => many - (intOf i).toNat)
  case atStart => exact ⟨0, Nat.zero_le _, rfl, HO1.out, HB1.out⟩
  case round =>
    rename World => wr
    obtain ⟨k, hk, rfl, hown, hb⟩ := hrel
    by_cases hlt : k < many
    · have hkl : k < l.length := by omega
      obtain ⟨g, off, cap', he, hc0, hc1⟩ := (H.out.below hb).at_ (k := k) hkl
      injection he with he1 _ he3
      subst he1 he3
      have hxx := HX.out k hkl hlt
      obtain ⟨a, ha⟩ : ∃ a, a = l[k].1 := ⟨_, rfl⟩
      obtain ⟨v, hv⟩ : ∃ v, v = l[k].2 := ⟨_, rfl⟩
      have HTN := Lib.hid (show l.take (k + 1) = l.take k ++ [(a, v)] from by
        rw [List.take_succ_eq_append_getElem hkl, ha, hv])
      rw [← ha] at hc0 hxx
      rw [← hv] at hc1 hxx
      obtain ⟨h8, h64, hv64⟩ := hxx
      obtain ⟨ws, hws⟩ : ∃ ws, ws = vw nl (l.take k) := ⟨_, rfl⟩
      have hwl : ws.length = 8 * nl := by rw [hws, vw_length]
      rw [← hws] at hown
      have HWS := Lib.hid hws
      have hgw : g < w.heap.size := H.out.lt (fun e => by rw [e] at hkl; cases hkl) rfl
      have HO := Lib.hid hown
      have HB := Lib.hid hb
      have HC0 := Lib.hid (show w.cell? ⟨g, off + k * 2, none⟩ = some (.int .u64 (a : Int)) from by
        rw [← hc0]
        exact (hb.cell (p := ⟨g, off + k * 2, none⟩) hgw).symm)
      have hkm : decide ((k : Int) < (many : Int)) = true := by rw [decide_eq_true_eq]; omega
      clear ha hv hws hown hb hc0
      go_wp2_with fail
      go_loopw [9, 10] (fun nn kk wq => ∃ q : Nat, q ≤ 8 ∧ kk = .int .i64 (q : Int) ∧ nn = .int .u64 ((v / 256 ^ q : Nat) : Int) ∧ wq.ownsRow w.heap.size 5 1 (.slice (some ⟨w.heap.size, 0, none⟩) N N) N ((pb ws (a / 8) v q).map bv) ∧ Below w.heap.size w wq) (fun _ kk _ => 8 - (intOf kk).toNat)
      case atStart => exact ⟨0, by omega, rfl, by simp, HO.out, HB.out⟩
      case round =>
        rename World => wq
        obtain ⟨q, hq, rfl, rfl, hown2, hb2⟩ := hrel
        by_cases hq8 : q < 8
        · have hc2 := (hb2.cell (p := ⟨g, off + k * 2, none⟩) hgw).trans HC0.out
          have hcv := hown2.cellAt (a + q) (by have := HN.out; omega)
          have hfz := hown2.frozenAt (a + q)
          have hlen := pb_length ws (a / 8) v q
          have haq : a + q < N := by have := HN.out; omega
          rw [List.getElem?_map, List.getElem?_eq_getElem (by rw [hlen, hwl]; have := HN.out; omega)] at hcv
          simp only [Option.map_some] at hcv
          unfold bv at hcv
          have HST := Lib.hid (hown2.stored (a + q) (bv (wbyt v q)))
          have h1' : IntKind.i64.wrap (a : Int) = (a : Int) := by rw [IntKind.wrap_i64]; omega
          have h2' : IntKind.i64.wrap ((a : Int) + (q : Int)) = ((a + q : Nat) : Int) := by rw [IntKind.wrap_i64]; omega
          obtain ⟨x, hx⟩ : ∃ x, x = v / 256 ^ q := ⟨_, rfl⟩
          have hxlt : x < 18446744073709551616 := by
            have := Nat.div_le_self v (256 ^ q)
            omega
          have HXE := Lib.hid (show wbyt v q = x % 256 from by rw [hx]; rfl)
          have HXN := Lib.hid (show v / 256 ^ (q + 1) = x / 256 from by rw [hx, Nat.pow_succ, Nat.div_div_eq_div_mul])
          rw [← hx]
          have h3' : IntKind.u8.wrap (x : Int) = ((x % 256 : Nat) : Int) := by rw [IntKind.wrap_u8]; omega
          have h4' : IntKind.u64.wrap ((x : Int) / 256) = ((x / 256 : Nat) : Int) := by rw [IntKind.wrap_u64]; omega
          have HPB := Lib.hid (show pb ws (a / 8) v (q + 1) = (pb ws (a / 8) v q).set (a + q) (wbyt v q) from by
            show (pb ws (a / 8) v q).set (8 * (a / 8) + q) _ = _
            rw [show 8 * (a / 8) + q = a + q from by omega])
          have hq8' : decide ((q : Int) < 8) = true := by rw [decide_eq_true_eq]; omega
          clear hx
          go_wp2
          have hb3 : Below w.heap.size w (wq.setCell ⟨w.heap.size, a + q, none⟩ (.int .u8 ((x : Int) % 256))) := hb2.setCell (p := ⟨w.heap.size, a + q, none⟩) (Nat.le_refl _) _
          refine ⟨⟨q + 1, by omega, by go_num, by rw [HXN.out]; rfl, ?_, hb3⟩, by simp only [intOf]; omega⟩
          have h5 := HST.out.1
          rw [HPB.out, List.map_set]
          rw [show bv (wbyt v q) = .int .u8 ((x : Int) % 256) from by rw [HXE.out]; rfl] at h5 ⊢
          exact h5
        · obtain rfl : q = 8 := by omega
          have HO2 := Lib.hid hown2
          have HB2 := Lib.hid hb2
          clear hown2 hb2
          go_wp2
          refine ⟨⟨k + 1, by omega, by go_num, ?_, HB2.out⟩, by simp only [intOf]; omega⟩
          rw [HTN.out]
          have e : vw nl (l.take k ++ [(a, v)]) = ws.set (a / 8) v := by
            unfold vw
            rw [lastW_snoc, HWS.out]
            rfl
          rw [e, ← pb_all ws (a / 8) v (by omega)]
          exact HO2.out
    · obtain rfl : k = many := by omega
      have HO := Lib.hid hown
      have HB := Lib.hid hb
      clear hown hb
      go_wp2
      go_ret
      refine ⟨⟨_, rfl, ?_⟩, HB.out⟩
      rw [bytesL_length, vw_length]
      rw [show 8 * (8 * nl) = N from by have := HN.out; omega]
      exact HO.out
end Go.Proofs.Ytgapncamnmngeaa
