/- Texts of this claim, packed: PBytes. -/
import Derived.Test.YtedefebdfcgjeaaGreatDoorPq08
import Derived.Deep.AppendLies
/- bytesOf, View, Image: the bytes of words, the lowest one of each first, in new memory. -/
namespace Go.Proofs.YtedefebdfcgjeaaGreatDoor
open Go.RowKit
set_option linter.unusedVariables false
theorem info5 : (Tryz.prog.info? 5).map (fun i => (i.zero, i.size, i.bytes)) = some (some (.int .u8 0), 1, 1) := by kernel_rfl

/-- A word's byte at place k; a word's bytes; the bytes of words. -/
def wbyt (n k : Nat) : Nat := n / 256 ^ k % 256
def wbytes (n : Nat) : List Nat := (List.range 8).map (wbyt n)
def bytesL (l : List Nat) : List Nat := l.flatMap wbytes
theorem wbytes_length (n : Nat) : (wbytes n).length = 8 := by simp [wbytes]
theorem bytesL_length (l : List Nat) : (bytesL l).length = 8 * l.length := by
  unfold bytesL
  induction l with
  | nil => rfl
  | cons a t ih => simp [List.flatMap_cons, ih, wbytes_length]; omega
theorem bytesL_append (a b : List Nat) : bytesL (a ++ b) = bytesL a ++ bytesL b := by simp [bytesL]
theorem bytesL_snoc (a : List Nat) (n : Nat) : bytesL (a ++ [n]) = bytesL a ++ wbytes n := by simp [bytesL]
theorem bytesL_lt (l : List Nat) : ∀ b ∈ bytesL l, b < 256 := by
  intro b hb
  simp only [bytesL, wbytes, List.mem_flatMap, List.mem_map] at hb
  obtain ⟨_, _, i, _, rfl⟩ := hb
  exact Nat.mod_lt _ (by decide)
theorem wbytes8 (n : Nat) : (wbytes n).map bv = [bv (wbyt n 0), bv (wbyt n 1), bv (wbyt n 2), bv (wbyt n 3), bv (wbyt n 4), bv (wbyt n 5), bv (wbyt n 6), bv (wbyt n 7)] := rfl
theorem wb8 (x : Nat) (hx : x < 18446744073709551616) : (wbytes x).map bv = #[Value.int IntKind.u8 ((x : Int) % 256), Value.int IntKind.u8 ((x : Int) / 256 % 256), Value.int IntKind.u8 ((x : Int) / 65536 % 256),
          Value.int IntKind.u8 ((x : Int) / 16777216 % 256), Value.int IntKind.u8 ((x : Int) / 4294967296 % 256),
          Value.int IntKind.u8 ((x : Int) / 1099511627776 % 256), Value.int IntKind.u8 ((x : Int) / 281474976710656 % 256),
          Value.int IntKind.u8 ((x : Int) / 72057594037927936)].toList := by
  have h : ∀ (a b : Nat) (c : Int), (a : Int) = c → bv a = Value.int .u8 c := fun a b c e => by unfold bv; rw [e]
  rw [wbytes8]
  simp only [List.cons.injEq, and_true]
  refine ⟨h _ 0 _ ?_, h _ 0 _ ?_, h _ 0 _ ?_, h _ 0 _ ?_, h _ 0 _ ?_, h _ 0 _ ?_, h _ 0 _ ?_, h _ 0 _ ?_⟩ <;> simp [wbyt] <;> omega
set_option maxRecDepth 100000 in
set_option maxHeartbeats 800000 in
theorem bytesOf_any (l : List Nat) (g n cap : Nat) (w : World) (hlen : l.length = n) (hl : n ≤ 131072) (hw : ∀ x ∈ l, x < 18446744073709551616) (h : w.ownsRow 0 39 1 (.slice (some ⟨g, 0, none⟩) n cap) n (l.map wv)) :
    Calls Tryz.prog 33 #[.slice (some ⟨g, 0, none⟩) n cap] w fun e w' => (∃ v, e = .returned v ∧ w'.ownsRow w.heap.size 5 1 v (8 * n) ((bytesL l).map bv)) ∧ Below w.heap.size w w' := by
  obtain ⟨i0, hi, hz0, hz1, hz2⟩ := info_parts info5
  subst hlen
  have m0 : 8 * l.length ≤ maxLen := by unfold maxLen; omega
  have m1 : i0.bytes * (8 * l.length) ≤ 281474976710656 := by rw [hz2]; omega
  go_enter Tryz.func33, Tryz.ntmps33
  go_wp2_with (at_make; refine wpList_make_own _ rfl (.const (.int .i64 0)) (.tmp 8) 31 rfl w.heap.size 5 i0 (.int .u8 0) 1 Tryz.underlying31 hi hz0 hz1 .i64 .i64 _ (8 * l.length) rfl rfl (by omega) m1 m0 (Nat.le_refl _) ?_; intro w1 hown1 hgrow1)
  have hb1 : Below w.heap.size w w1 := (Below.refl _ _).grown hgrow1 (Nat.le_refl _) (by intro q hq; cases hq)
  have hcell : ∀ k (hk : k < l.length), w1.cell? ⟨g, k, none⟩ = some (wv l[k]) := by
    intro k hk
    have hg := (h.lt g rfl).2
    rw [hb1.cell (p := ⟨g, k, none⟩) hg, h.cellAt k (by omega), List.getElem?_map, List.getElem?_eq_getElem hk]
    rfl
  clear hgrow1 m1
  have hW : 0 < l.length → g < w.heap.size := fun _ => (h.lt g rfl).2
  have H := Lib.hid h
  have HW := Lib.hid hw
  clear h hw
  go_loopw [3, 12] (fun v i wr => ∃ k : Nat, k ≤ l.length ∧ i = .int .i64 k ∧ wr.ownsRow w.heap.size 5 1 v (8 * k) ((bytesL (l.take k)).map bv) ∧ Below w.heap.size w wr) (fun _ i _ => l.length - (intOf i).toNat)
  case atStart => exact ⟨0, by omega, rfl, by simpa [bytesL] using hown1, hb1⟩
  case round =>
    obtain ⟨k, hk, rfl, hown, hb⟩ := hrel
    clear hown1 hb1 hcell
    by_cases hlt : k < l.length
    · have hc : wr.cell? ⟨g, k, none⟩ = some (wv l[k]) := by
        have hg := hW (by omega)
        rw [hb.cell (p := ⟨g, k, none⟩) hg, H.out.cellAt k (by omega), List.getElem?_map, List.getElem?_eq_getElem hlt]
        rfl
      have hx : l[k] < 18446744073709551616 := HW.out _ (List.getElem_mem hlt)
      have hsn : bytesL (l.take (k + 1)) = bytesL (l.take k) ++ wbytes l[k] := by rw [List.take_succ_eq_append_getElem hlt, bytesL_snoc]
      obtain ⟨x, hxe⟩ : ∃ x, x = l[k] := ⟨_, rfl⟩
      rw [← hxe] at hc hx hsn
      unfold wv at hc
      have HS := Lib.hid hsn
      clear hsn hxe
      have hone := hown.alloc
      have a1 : 8 * k + 8 ≤ maxLen := by unfold maxLen; omega
      have a2 : (8 * k + 8) * 1 ≤ 140737488355328 := by omega
      have a3 : w.heap.size ≤ wr.heap.size := hb.size
      have hHN := Lib.hid (fun o : Obj => heap_alloc_new wr o)
      go_wp2_with (at_builtin; refine wpList_append_own _ rfl (.tmp 16) (.tmp 40) 31 rfl w.heap.size 5 i0 (.int .u8 0) 1 1 Tryz.underlying31 hi hz0 hz1 hz2 rfl (by decide) _ (8 * k) _ rfl (hone _) ⟨wr.heap.size, 0, none⟩ 8 8 _ rfl rfl (World.news_of_block (fr := (0, 0)) (hHN.out _)) (by simp [Value.oneCell']) a1 a2 (by simp; omega) ?_; intro v' w2 hown2 hgrow2 hnil2)
      have hb2 : Below w.heap.size w w2 := (hb.alloc hb.size _).grown hgrow2 (by simp; omega) (by intro q hq; exact (hown.lt q hq).1)
      refine ⟨⟨k + 1, by omega, by go_num, ?_, hb2⟩, by simp [intOf]; omega⟩
      rw [HS.out, List.map_append, wb8 x hx]
      exact hown2
    · have hk2 : k = l.length := by omega
      subst hk2
      go_wp2
      go_ret
      exact ⟨⟨_, rfl, by rw [List.take_of_length_le (Nat.le_refl _)] at hown; exact hown⟩, hb⟩

theorem image_no {p : Option Addr} {w : World} (h : NoMem w p) : Calls Tryz.prog 8 #[.pointer p] w fun e w' => e = .returned (.slice none 0 0) ∧ w = w' := by
  have H := Lib.hid (none_no h)
  clear h
  go_enter Tryz.func8, Tryz.ntmps8
  go_wp2_with fail
  refine H.out.mono ?_
  rintro e w1 ⟨rfl, rfl⟩
  go_wp2
  go_ret
  exact ⟨rfl, rfl⟩
/-- Words that fit. -/
def Fits (l : List Nat) : Prop := ∀ x ∈ l, x < 18446744073709551616
theorem ownsRow_len {w : World} {B n : Nat} {e : TypeId} {v : Value} {l : List Nat} (h : w.ownsRow B e 1 v n (l.map wv)) : l.length = n := by
  have := h.1
  simpa using this
def BytesPost (w : World) (l : List Nat) (e : Ending) (w' : World) : Prop := (∃ v, e = .returned v ∧ w'.ownsRow w.heap.size 5 1 v l.length (l.map bv)) ∧ Below w.heap.size w w'
theorem image_yes {w : World} {y : Lay} {s : St} (h : MemAt w y s) (hf : Fits s.lasted) : Calls Tryz.prog 8 #[.pointer (some ⟨y.g, 0, none⟩)] w (BytesPost w (bytesL s.lasted)) := by
  have H := Lib.hid (none_yes h)
  have hlen := ownsRow_len h.las
  have HB := Lib.hid (bytesOf_any s.lasted y.gl (8 * s.nl) y.cl w hlen (by have := h.most; omega) hf h.las)
  have h1 := h.row.cell 0
  simp only [List.getElem?_toArray, List.getElem?_cons_succ, List.getElem?_cons_zero] at h1
  have e8 : 8 * (8 * s.nl) = (bytesL s.lasted).length := by rw [bytesL_length, hlen]
  rw [e8] at HB
  obtain ⟨N, hN⟩ : ∃ N, N = 8 * s.nl := ⟨_, rfl⟩
  rw [← hN] at h1 HB
  obtain ⟨g, hg⟩ : ∃ g, g = y.g := ⟨_, rfl⟩
  rw [← hg] at h1 H ⊢
  obtain ⟨L, hL⟩ : ∃ L, L = bytesL s.lasted := ⟨_, rfl⟩
  rw [← hL] at HB ⊢
  clear hg hN h e8 hlen hL hf
  go_enter Tryz.func8, Tryz.ntmps8
  go_wp2_with fail
  refine H.out.mono ?_
  rintro e w1 ⟨rfl, rfl⟩
  go_wp2_with fail
  refine HB.out.mono ?_
  rintro e w2 ⟨⟨v, rfl, ho⟩, hb⟩
  go_wp2
  go_ret
  exact ⟨⟨v, rfl, ho⟩, hb⟩
end Go.Proofs.YtedefebdfcgjeaaGreatDoor
