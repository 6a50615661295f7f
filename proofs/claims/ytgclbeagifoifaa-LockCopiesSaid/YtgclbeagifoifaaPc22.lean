/- Texts of this claim, packed: 7Drop. -/
import Derived.Test.YtgclbeagifoifaaPc21
/- Drop: takes all locks from a client; for any table and client. -/
namespace Go.Proofs.Ytgclbeagifoifaa
open Go.RowKit Go.Shelf Go.Maps
set_option linter.unusedVariables false
attribute [local go_sem] Oper.semAt_some
/-- The locks when a client waits for nothing and has lost those of a list. -/
def dmS (s : Lk) (c : Nat) (l : List Nat) : Lk := ⟨s.n, fun id => if id ∈ l then none else s.hm id, setW s.wt c 0, s.sz⟩
def dropS (s : Lk) (c : Nat) : Lk := ⟨s.n, fun id => if s.hm id = some c then none else s.hm id, setW s.wt c 0, s.sz⟩
theorem drop_ok {s : Lk} (h : s.Ok) (c : Nat) {hm' : Nat → Option Nat} (hs : ∀ id d, hm' id = some d → s.hm id = some d) : Lk.Ok ⟨s.n, hm', setW s.wt c 0, s.sz⟩ := by
  refine ⟨h.n1, h.n2, ?_, fun id d e => h.hc id d (hs id d e), fun d => ?_, fun d hd => ?_, fun d hd he => ?_, h.zs⟩
  · show hm' 0 = none
    cases e : hm' 0 with
    | none => rfl
    | some d => have := hs 0 d e; rw [h.h0] at this; cases this
  · show setW s.wt c 0 d < _
    unfold setW
    split
    · omega
    · exact h.wb d
  · show setW s.wt c 0 d = 0
    unfold setW
    split
    · rfl
    · exact h.wo d hd
  · change setW s.wt c 0 d ≠ 0 at hd
    change hm' (setW s.wt c 0 d) = some d at he
    unfold setW at hd he
    split at hd
    · exact hd rfl
    · rename_i e
      rw [if_neg e] at he
      exact h.hw d hd (hs _ d he)
theorem dm_ok {s : Lk} (h : s.Ok) (c : Nat) (l : List Nat) : (dmS s c l).Ok := drop_ok h c (fun id d e => by
  change (if id ∈ l then none else s.hm id) = some d at e
  split at e
  · cases e
  · exact e)
theorem dm_nil (s : Lk) (c : Nat) : dmS s c [] = ⟨s.n, s.hm, setW s.wt c 0, s.sz⟩ := by simp [dmS]
theorem dm_all {s : Lk} {c : Nat} {xs : List Nat} (hx : HeldIs s c xs) : dmS s c xs = dropS s c := by
  unfold dmS dropS
  congr 1
  funext id
  by_cases h : s.hm id = some c
  · rw [if_pos h, if_pos ((hx.2 id).2 h)]
  · rw [if_neg h, if_neg (fun hm => h ((hx.2 id).1 hm))]
theorem dm_next {s : Lk} {c : Nat} {xs : List Nat} {k x : Nat} (hx : xs[k]? = some x) : setH (dmS s c (xs.take k)).hm x none = (dmS s c (xs.take (k + 1))).hm := by
  have hkl := (List.getElem?_eq_some_iff.1 hx).1
  have e : xs.take (k + 1) = xs.take k ++ [x] := by
    rw [List.take_succ_eq_append_getElem hkl, (List.getElem?_eq_some_iff.1 hx).2]
  funext id
  simp only [dmS, setH, e, List.mem_append, List.mem_singleton]
  by_cases h : id = x
  · simp [h]
  · simp [h]
/-- What holds when k locks were taken; the block r is the iterator's. -/
structure DrI (w : World) (g b c : Nat) (s : Lk) (xs : List Nat) (r k : Nat) (W : World) : Prop where
  lt : r < W.heap.size
  ge : w.heap.size + 3 ≤ r
  but : But w W (kfp g b)
  tb : Row W w.heap.size 24 #[.pointer (some ⟨g, 0, none⟩)]
  t1 : Row W (w.heap.size + 1) 24 #[.pointer (some ⟨g, 0, none⟩)]
  t2 : Row W (w.heap.size + 1 + 1) 3 #[.int .i64 (c : Int)]
  at_ : KAt W g b (dmS s c (xs.take k))
theorem dri_stay {w : World} {g b c : Nat} {s : Lk} {xs : List Nat} (hg : g < w.heap.size) (hb : b < w.heap.size) (r k : Nat) (W W' : World) (row : Option Nat) (h : DrI w g b c s xs r k W) (hw : W.grownBy W' row)
    (hr : ∀ q, row = some q → w.heap.size + 3 ≤ q) : DrI w g b c s xs r k W' :=
  ⟨Nat.lt_of_lt_of_le h.lt hw.size, h.ge, h.but.trans (q := fun k => w.heap.size ≤ k) ⟨hw.os, hw.tape, hw.output, hw.size, fun q hq hn => hw.block q hq (fun e => hn (by have := hr q e.symm; show w.heap.size ≤ q; omega))⟩ (fun k hk => .inr hk),
    h.tb.grown hw (fun e => by have := hr _ e.symm; omega), h.t1.grown hw (fun e => by have := hr _ e.symm; omega), h.t2.grown hw (fun e => by have := hr _ e.symm; omega),
    h.at_.same (hw.block _ (by have := h.but.size; omega) (fun e => by have := hr _ e.symm; omega)) (hw.block _ (by have := h.but.size; omega) (fun e => by have := hr _ e.symm; omega))⟩
set_option maxRecDepth 100000 in
set_option maxHeartbeats 2000000 in
theorem drop_any {w : World} {g b : Nat} {s : Lk} (h : KAt w g b s) {c : Nat} (hc : c < s.n) {xs : List Nat} (hx : HeldIs s c xs) :
    Calls Try.prog 20 #[.pointer (some ⟨g, 0, none⟩), .int .i64 (c : Int)] w fun e w' => e = .returned (.tuple #[]) ∧ KAt w' g b (dropS s c) ∧ But w w' (kfp g b) := by
  have c64 : c < 64 := by have := h.ok.n2; omega
  have hgl := h.row.lt
  have hbl := h.mp.lt
  have hgb := h.ne
  have hb0 := alloc_below w (.cells #[.pointer (some ⟨g, 0, none⟩)] 24)
  have h0 := h.below hb0
  have hI := kis_any h0 (c : Int)
  rw [isC_yes hc] at hI
  have hfr := h.free (2 + c)
  have hcell := h.cw c64
  have hcm := h.cm
  have h1 : KAt ((w.setCell ⟨g, 2 + c, none⟩ (.int .u64 0)).alloc (.cells #[.pointer (some ⟨g, 0, none⟩)] 24)) g b (dmS s c []) := by
    rw [dm_nil]
    have h2 : KAt (w.setCell ⟨g, 2 + c, none⟩ (.int .u64 0)) g b ⟨s.n, s.hm, setW s.wt c 0, s.sz⟩ := KAt.wset (a := 0) h c64 rfl rfl rfl rfl (drop_ok h.ok c (fun _ _ e => e))
    exact h2.below (alloc_below _ _)
  have hB1 : But w ((w.setCell ⟨g, 2 + c, none⟩ (.int .u64 0)).alloc (.cells #[.pointer (some ⟨g, 0, none⟩)] 24)) (kfp g b) := But.alloc (But.set (But.refl _ _) (.inl rfl) _) _
  have hT1 : Row ((w.setCell ⟨g, 2 + c, none⟩ (.int .u64 0)).alloc (.cells #[.pointer (some ⟨g, 0, none⟩)] 24)) w.heap.size 24 #[.pointer (some ⟨g, 0, none⟩)] :=
by
    have := Row.new (w.setCell ⟨g, 2 + c, none⟩ (.int .u64 0)) 24 #[.pointer (some ⟨g, 0, none⟩)]
    rwa [size_set] at this
  have HI := Lib.hid hI
  have HX := Lib.hid hx
  have HOK := Lib.hid h.ok
  have HK1 := Lib.hid h1
  have HB1 := Lib.hid hB1
  have HT1 := Lib.hid hT1
  have hxb : ∀ id, id ∈ xs → id < 18446744073709551616 := fun id hm => (h.ok.hc id c ((hx.2 id).1 hm)).2
  have HXB := Lib.hid hxb
  clear hx h1 hB1 hT1 hxb h h0 hI hb0
  refine (callsIn_wide (n := 6)).1 ?_
  refine callsIn_of_wp_marks Try.func20 rfl trivial ?_ rfl
  simp only [Try.ntmps20, List.size_toArray, List.length_cons, List.length_nil, Nat.reduceAdd, Nat.reduceSub, Array.replicate_succ, Array.replicate_zero, List.push_toArray, List.append_toArray, List.nil_append, List.cons_append]
  gi_wp2_with (refine ⟨trivial, ?_⟩; gi_at_call 33; refine (callsIn_wide.2 HI.out).mono ?_; rintro e w' ⟨rfl, rfl⟩)
  gi_wp2_with (refine ⟨trivial, ?_⟩; gi_at_call 36; refine (callsIn_wide.2 (locks_any _ _ _)).mono ?_; rintro e w' ⟨rfl, rfl⟩)
  obtain ⟨W1, hW1⟩ : ∃ W1, W1 = (w.setCell ⟨g, 2 + c, none⟩ (.int .u64 0)).alloc (.cells #[.pointer (some ⟨g, 0, none⟩)] 24) := ⟨_, rfl⟩
  have hs1 : W1.heap.size = w.heap.size + 1 := by rw [hW1]; simp [size_set]
  rw [← hW1] at HK1 HB1 HT1
  obtain ⟨W0, hW0⟩ : ∃ W0, W0 = (W1.alloc (.cells #[.pointer (some ⟨g, 0, none⟩)] 24)).alloc (.cells #[.int .i64 (c : Int)] 3) := ⟨_, rfl⟩
  rw [hW1] at hW0
  rw [← hW0]
  rw [← hW1] at hW0
  have hsz : W0.heap.size = w.heap.size + 3 := by rw [hW0]; simp [hs1]
  have hb0 : Below W1.heap.size W1 W0 := by
    rw [hW0]
    exact Below.and (alloc_below _ _) (alloc_below _ _)
  have hk0 : KAt W0 g b (dmS s c []) := HK1.out.below hb0
  have hB0 : But w W0 (kfp g b) := HB1.out.trans (But.of_below hb0 (fun _ => False)) (fun k hk => hk.elim)
  have hT0 : Row W0 w.heap.size 24 #[.pointer (some ⟨g, 0, none⟩)] := HT1.out.below hb0 HT1.out.lt
  have r1 : Row W0 (w.heap.size + 1) 24 #[.pointer (some ⟨g, 0, none⟩)] := by
    rw [hW0]
    refine Row.alloc ?_ _
    have := Row.new W1 24 #[.pointer (some ⟨g, 0, none⟩)]
    rwa [hs1] at this
  have r2 : Row W0 (w.heap.size + 1 + 1) 3 #[.int .i64 (c : Int)] := by
    rw [hW0]
    have := Row.new (W1.alloc (.cells #[.pointer (some ⟨g, 0, none⟩)] 24)) 3 #[.int .i64 (c : Int)]
    simpa [hs1] using this
  have HK0 := Lib.hid hk0
  have HB0 := Lib.hid hB0
  have HT0 := Lib.hid hT0
  clear hW0 hW1 hk0 hB0 hT0 HK1 HB1 HT1 hb0 hfr HI hcell hcm
  have hKR : ∀ r k W, DrI w g b c s xs r k W → KReads W g b (w.heap.size + 1) (w.heap.size + 1 + 1) (dmS s c []) c xs k := fun r k W h =>
    ⟨h.t1.cell 0, h.t2.cell 0, _, h.at_, fun id hn => by
      show (if id ∈ xs.take k then none else s.hm id) = (if id ∈ ([] : List Nat) then none else s.hm id)
      rw [if_neg (fun hm => hn (List.mem_of_mem_take hm)), if_neg (by simp)], fun j id hj hxj => by
      have hj1 := (List.getElem?_eq_some_iff.1 hxj).1
      show (if id ∈ xs.take k then none else s.hm id) = some c
      rw [if_neg, (HX.out.2 id).1 (List.mem_of_getElem? hxj)]
      intro hm
      obtain ⟨i, hi⟩ := List.mem_iff_getElem?.1 hm
      rw [List.getElem?_take] at hi
      split at hi
      · rename_i hik
        have hi1 := (List.getElem?_eq_some_iff.1 hi).1
        have := List.pairwise_iff_getElem.1 HX.out.1 i j hi1 hj1 (by omega)
        have e1 := (List.getElem?_eq_some_iff.1 hi).2
        have e2 := (List.getElem?_eq_some_iff.1 hxj).2
        omega
      · cases hi⟩
  have HKR := Lib.hid hKR
  clear hKR
  have hx0 : HeldIs (dmS s c []) c xs := ⟨HX.out.1, fun id => by rw [HX.out.2 id]; show _ ↔ (if id ∈ ([] : List Nat) then none else s.hm id) = some c; rw [if_neg (by simp)]⟩
  refine range_allR rfl (by omega) (gf := 39) (lb := #[.pointer (some ⟨w.heap.size + 1, 0, none⟩), .pointer (some ⟨w.heap.size + 1 + 1, 0, none⟩)]) rfl trivial (enters_of Try.func39 (by kernel_rfl) rfl) xs (encs := encA) (fun _ => rfl) (DrI w g b c s xs)
    (fun r k W W' row hI hg hr => dri_stay hgl hbl r k W W' row hI hg (fun q e => by obtain ⟨a1, _, a2⟩ := hr q e; omega))
    (fun r W hb hr hr' => ⟨hr', by omega, HB0.out.trans (But.of_below hb (fun _ => False)) (fun k hk => hk.elim), HT0.out.below hb HT0.out.lt, r1.below hb r1.lt, r2.below hb r2.lt, HK0.out.below hb⟩)
    (kiter_tells HK0.out (s := dmS s c []) hc hx0 (w.heap.size + 1) (w.heap.size + 1 + 1) _ (r1.cell 0) (r2.cell 0) HKR.out)
    (fun x => { tmps := #[.pointer (some ⟨g, 0, none⟩), .int .i64 (c : Int), .pointer (some ⟨w.heap.size, 0, none⟩), undef, .int .u64 (x : Int), .pointer (some ⟨g, 0, none⟩), .int .i64 (c : Int), .bool true, .bool false,
      .pointer (some ⟨g, 0, none⟩), .int .i64 (c : Int), .pointer (some ⟨g, 0, none⟩), .pointer (some ⟨g, 2, none⟩), .pointer (some ⟨g, 2 + c, none⟩), .pointer (some ⟨g, 0, none⟩), .int .i64 (c : Int),
      .func (.func 39) #[] #[.pointer (some ⟨w.heap.size + 1, 0, none⟩), .pointer (some ⟨w.heap.size + 1 + 1, 0, none⟩)], .int .u64 (x : Int), undef, undef, undef, undef, undef], defers := [] }) ?assign ?body ?done
  case assign =>
    intro l x W K hK
    dsimp only [encA]
    gi_wp2
    exact hK
  case body =>
    intro l r k x W hx hr2 hD
    have ht := hD.tb.cell 0
    have hcm := hD.at_.cm
    obtain ⟨w2, hdel, hH2, hg2⟩ := has_del (ty := 0) hD.at_.mp (HXB.out x (List.mem_of_getElem? hx))
    have HD := Lib.hid hD
    have HH2 := Lib.hid hH2
    have HG2 := Lib.hid hg2
    have HXX := Lib.hid hx
    clear hD hH2 hg2 hx r1 r2 hx0
    gi_wp2
    have hne : ∀ q, q ≠ b → q < W.heap.size → w2.heap[q]? = W.heap[q]? := fun q hq hl => HG2.out.block q hl (fun e => hq (by injection e))
    have hgr : ∀ q, q ≠ b → some q ≠ some b := fun q hq e => hq (by injection e)
    refine ⟨⟨HG2.out.size, fun q o hq ho hc => (hne q (by omega) (Array.getElem?_eq_some_iff.1 ho).1).trans ho⟩, ⟨Nat.lt_of_lt_of_le HD.out.lt HG2.out.size, HD.out.ge, ?_, HD.out.tb.grown HG2.out (hgr _ (by omega)), HD.out.t1.grown HG2.out (hgr _ (by omega)), HD.out.t2.grown HG2.out (hgr _ (by omega)), ?_⟩,
      fun o ho => (hne r (by have := HD.out.ge; omega) HD.out.lt).trans ho⟩
    · exact HD.out.but.trans (q := kfp g b) ⟨HG2.out.os, HG2.out.tape, HG2.out.output, HG2.out.size, fun q hq hn => hne q (fun e => hn (.inr e)) hq⟩ (fun k hk => .inl hk)
    · refine ⟨HD.out.at_.row.grown HG2.out (hgr _ hgb), ?_, dm_ok HOK.out c _⟩
      rw [← dm_next HXX.out]
      exact HH2.out
  case done =>
    rintro D r W hD hI hK
    clear r1 r2 hx0
    gi_wp2
    refine ⟨by simp, .inl ⟨_, _, rfl, run_takeDeferred hK, ?_⟩⟩
    have hI' := dri_stay hgl hbl r _ W _ _ hI (grownBy_putObj' W D (.deferred none)) (fun q e => by cases e; omega)
    refine ⟨_, results_none rfl _ _ _, rfl, ?_, hI'.but⟩
    have := hI'.at_
    rwa [List.take_length, dm_all HX.out] at this
end Go.Proofs.Ytgclbeagifoifaa
