/- Texts of this claim, packed: N9W, N8RefP, N8RefS, N8RefM, SnTl, SnRt, N9Ch, N9Sm, N9Set, N9Bg, N9Mv, N9Rfl, N9Ins, N9Same, N9Prog. -/
import Derived.Test.YtkbklooocdfcfaaGreatDoorPz24
import Derived.Test.YtkbklooocdfcfaaGreatDoorPz22
import Derived.Test.YtkbklooocdfcfaaGreatDoorPz19
import Derived.Test.YtkbklooocdfcfaaGreatDoorPz06
import Derived.Test.YtkbklooocdfcfaaGreatDoorPz23
import Derived.Deep.RegionLaw
import Derived.Deep.AppendLies
import Derived.WalkMore
set_option linter.unusedVariables false
set_option maxRecDepth 100000
set_option maxHeartbeats 6400000
namespace Go.Proofs.YtkbklooocdfcfaaGreatDoor
open Go.RowKit Go.Sort
theorem frozen_grown9 {w w' : World} {row : Option Nat} (hg : w.grownBy w' row) {p : Addr} (hl : p.block < w.heap.size) (hn : some p.block ≠ row) (hf : w.frozen? p = false) : w'.frozen? p = false := by
 rw [World.frozen?_of_block (hg.block _ hl hn)]; exact hf
theorem frozen_alloc9 {w : World} {p : Addr} (hl : p.block < w.heap.size) (o : Obj) : (w.alloc o).frozen? p = w.frozen? p := World.frozen?_of_block (Below.heap_alloc w o p.block hl)
theorem heap_alloc_new9 (w : World) (o : Obj) : (w.alloc o).heap[w.heap.size]? = some o := by
 unfold World.alloc
 exact Array.getElem?_push_size
theorem drew_low9 (w : World) : Below w.heap.size w w.drew := ⟨rfl, rfl, rfl, Nat.le_refl _, fun _ _ => rfl⟩
end Go.Proofs.YtkbklooocdfcfaaGreatDoor
namespace Go.Proofs.YtkbklooocdfcfaaGreatDoor
open Go.RowKit
end Go.Proofs.YtkbklooocdfcfaaGreatDoor
namespace Go.Proofs.YtkbklooocdfcfaaGreatDoor
open Go.RowKit
attribute [local go_sem] Oper.semAt_some
def Nd.side (n : Nd) : Nd := if n.nx = 0 then n else { n with nx := 1280 }
end Go.Proofs.YtkbklooocdfcfaaGreatDoor
namespace Go.Proofs.YtkbklooocdfcfaaGreatDoor
open Go.RowKit Go.Sort
def chC (base : Int) (n : Nd) (v : Value) : List Value := uw base :: (n.cl ++ [v])
def ChAt (w : World) (B b : Nat) (base : Int) (n : Nd) (l : List (Int × Int)) : Prop :=
 B <= b /\ ∃ v, Row w b 204 (chC base n v).toArray /\ w.ownsRow B 165 2 v l.length (flatE l) /\ v.ownBlock ≠ some b
theorem chC_base (base : Int) (n : Nd) (v : Value) : (chC base n v)[0]? = some (uw base) := rfl
theorem chC_st (base : Int) (n : Nd) (v : Value) : (chC base n v)[22]? = some v := rfl
theorem chC_set (base : Int) (n : Nd) (v u : Value) : (chC base n v).set 22 u = chC base n u := rfl
theorem chC_mid (base : Int) (n : Nd) (v : Value) {i : Nat} (hi : i < 21) : (chC base n v)[1 + i]? = n.cl[i]? := by
 rw [show 1 + i = i + 1 by omega]
 unfold chC
 rw [List.getElem?_cons_succ, List.getElem?_append_left (by rw [n.size]; exact hi)]
theorem ChAt.node {w : World} {B b : Nat} {base : Int} {n : Nd} {l : List (Int × Int)} (h : ChAt w B b base n l) : w.rangeAt b 1 n.cl := by
 obtain ⟨hB, v, hr, ho, hn⟩ := h
 intro j u hu
 have hj : j < 21 := (List.getElem?_eq_some_iff.1 hu).1
 rw [hr.cell, List.getElem?_toArray, chC_mid _ _ _ hj]
 exact hu
theorem ChAt.lt {w : World} {B b : Nat} {base : Int} {n : Nd} {l : List (Int × Int)} (h : ChAt w B b base n l) : b < w.heap.size := by
 obtain ⟨hB, v, hr, ho, hn⟩ := h
 exact hr.lt
theorem infoPut : (Tryz.prog.info? 165).map (fun i => (i.zero, i.size, i.bytes)) = some (some (.agg #[.int .u64 0, .int .u64 0]), 2, 16) := by kernel_rfl
theorem ch_push {w w1 : World} {B b m g cap : Nat} {base : Int} {n : Nd} {l : List (Int × Int)} {v : Value} {x y : Int} {o : Obj} (hr : Row w b 204 (chC base n v).toArray) (hB : B <= b) (hm : m = l.length) (hn : v.ownBlock ≠ some b) (hO : w.ownsRow B 165 2 v m (flatE l))
  (hown : w1.ownsRow B 165 2 (.slice (some ⟨g, 0, none⟩) (m + 1) cap) (m + 1) (flatE l ++ [.int .u64 x, .int .u64 y])) (hgrow : (w.alloc o).drew.grownBy w1 v.ownBlock) (hsm : v.ownBlock = some g \/ g = w.heap.size + 1) (hlt : g < w1.heap.size) :
  ChAt (w1.setCell ⟨b, 22, none⟩ (.slice (some ⟨g, 0, none⟩) (m + 1) cap)) B b base n (l ++ [(x, y)]) /\ Below B w (w1.setCell ⟨b, 22, none⟩ (.slice (some ⟨g, 0, none⟩) (m + 1) cap)) := by
 have hlt := hr.lt
 have hb0 : Below w.heap.size w (w.alloc o).drew := low_and (alloc_low _ _) (drew_low9 _)
 have hr1 : Row w1 b 204 (chC base n v).toArray := (hr.below hb0 hlt).grown hgrow (fun e => hn e.symm)
 have hgb : g ≠ b := by
  rcases hsm with h | h
  ·intro e; subst e; exact hn h
  ·omega
 refine ⟨⟨hB, .slice (some ⟨g, 0, none⟩) (m + 1) cap, ?_, ?_, fun e => by cases e; exact hgb rfl⟩, ?_⟩
 ·have := hr1.set 22 (.slice (some ⟨g, 0, none⟩) (m + 1) cap)
  rw [List.setIfInBounds_toArray, chC_set] at this
  exact this
 ·rw [List.length_append, flatE_snoc, <- hm]
  exact ownS_set hown (fun k e => by cases e; exact hgb) _
 ·have hbw : B <= w.heap.size := by omega
  exact ((hb0.mono hbw).grown hgrow (by have := hb0.size; omega) (fun k hk => (ownS_from hO k hk).1)).setCell (p := ⟨b, 22, none⟩) hB _
theorem cstore_any {w : World} {B b : Nat} {base : Int} {n : Nd} {l : List (Int × Int)} (h : ChAt w B b base n l) (hl : l.length <= 1000) (hb : 0 <= base /\ base <= 1099511627776) {at_ : Int} (ha : 0 <= at_ /\ at_ <= 1000) (word : Int) :
  Calls Tryz.prog 76 #[.pointer (some ⟨b, 0, none⟩), .int .i64 at_, .int .u64 word] w fun e w' => e = .returned (.tuple #[]) /\ ChAt w' B b base n (l ++ [(base + at_, word)]) /\ Below B w w' := by
 obtain ⟨i0, hi, hz0, hz1, hz2⟩ := info_parts infoPut
 have hlt := h.lt
 obtain ⟨hB, v, hr, ho, hn⟩ := h
 have mixed : Tryz.prog.follows .mixedOrders = true := by kernel_rfl
 have c0 := (hr.cell 0).trans List.getElem?_toArray
 have c22 := (hr.cell 22).trans List.getElem?_toArray
 rw [chC_base] at c0
 rw [chC_st] at c22
 have f22 := hr.free 22
 obtain ⟨m, hm⟩ : ∃ m, m = l.length := ⟨_, rfl⟩
 rw [<- hm] at ho hl
 obtain ⟨ad, had⟩ : ∃ ad, ad = base + at_ := ⟨_, rfl⟩
 have hw1 : IntKind.u64.wrap at_ = at_ := by rw [IntKind.wrap_u64]; omega
 have hw2 : IntKind.u64.wrap (base + at_) = base + at_ := by rw [IntKind.wrap_u64]; omega
 have HO := Lib.hid (fun (W : World) (hb : Below w.heap.size w W) => (show W.ownsRow B 165 2 v m (flatE l) from ownS_low ho hb))
 have HR := Lib.hid hr
 have HN := Lib.hid hn
 have HM := Lib.hid hm
 have HB := Lib.hid hB
 have HLT := Lib.hid hlt
 have HF22 := Lib.hid f22
 have HC22 := Lib.hid c22
 clear ho hr hn hm hB had
 go_enter Tryz.func76, Tryz.ntmps76
 go_wp2_with fail
 go_region_law ((refine step_append_lies _ (by rfl) (.tmp 10) (.tmp 20) _ (by rfl) B 165 i0 (.agg #[.int .u64 0, .int .u64 0]) 2 16 rfl hi hz0 hz1 hz2 rfl (by decide) _ _ _ (by rfl) (HO.out _ (low_and (alloc_low _ _) (drew_low9 _))) ⟨w.heap.size, 0, none⟩ 1 1 [.int .u64 (base + at_), .int .u64 word] (by rfl) (by rfl) (World.news_of_block (cs := #[.int .u64 (base + at_), .int .u64 word]) (t := 165) (fr := (0, 0)) (heap_alloc_new9 w _)) (by intro u hu; simp at hu; rcases hu with rfl | rfl <;> rfl) (by decide) (by unfold maxLen; omega) (by omega) (by simp; have := HB.out; have := HLT.out; omega) (w.heap.size + 1) (by simp) ?_; intro g cap w1 hown hgrow hsm hlt2; have fq : w1.frozen? ⟨b, 22, none⟩ = false := frozen_grown9 hgrow (by simp; exact Nat.lt_succ_of_lt HLT.out) (fun e => HN.out e.symm) (by simp; exact (frozen_alloc9 HLT.out _).trans HF22.out); have dq : w1.cell? ⟨b, 22, none⟩ = some v := (hgrow.cell_far _ (by simp; exact Nat.lt_succ_of_lt HLT.out) (fun e => HN.out e.symm)).trans (by simp; exact (World.cell?_alloc_lt _ _ _ HLT.out).trans HC22.out)))
 all_goals
  obtain ⟨hc, hbl⟩ := ch_push HR.out HB.out HM.out HN.out (HO.out w (Below.refl _ _)) hown hgrow hsm hlt2
  go_end0
  exact ⟨rfl, hc, hbl⟩
theorem cptr_any {w : World} {B b : Nat} {base : Int} {n : Nd} {l : List (Int × Int)} (h : ChAt w B b base n l) (hl : l.length <= 1000) (hb : 0 <= base /\ base <= 1099511627776) {p : Nat} (hp : p < 8) (word : Int) :
  Calls Tryz.prog 84 #[.pointer (some ⟨b, 0, none⟩), .int .i64 (p : Int), .int .u64 word] w fun e w' => e = .returned (.tuple #[]) /\ ChAt w' B b base n (l ++ [(pA base p, word)]) /\ Below B w w' := by
 have HS := Lib.hid (cstore_any h hl hb (at_ := 64 + 16 * (p : Int) + 8) (by omega) word)
 rw [show base + (64 + 16 * (p : Int) + 8) = pA base p by unfold pA; omega] at HS
 clear h
 go_enter Tryz.func84, Tryz.ntmps84
 go_wp2_with (go_at_call 76; refine HS.out.mono ?_; rintro e w' ⟨rfl, h2, h3⟩)
 go_end0
 exact ⟨rfl, h2, h3⟩
end Go.Proofs.YtkbklooocdfcfaaGreatDoor
namespace Go.Proofs.YtkbklooocdfcfaaGreatDoor
open Go.RowKit
def bOk (b : Int) : Bool := decide (b % 64 = 0) && decide (0 < b) && decide (b <= 1099511627776)
theorem bOk_iff (b : Int) : bOk b = true ↔ b % 64 = 0 /\ 0 < b /\ b <= 1099511627776 := by simp [bOk, and_assoc]
theorem tmod64 {b : Int} (h : 0 <= b) : b.tmod 64 = b % 64 := Int.tmod_eq_emod_of_nonneg h
theorem isBase_any {b : Int} (hb : 0 <= b) (w : World) : Calls Tryz.prog 103 #[.int .u64 b] w fun e w' => e = .returned (.bool (bOk b)) /\ w = w' := by
 obtain ⟨R, hR⟩ : ∃ R, R = bOk b := ⟨_, rfl⟩
 rw [<- hR]
 have HR := Lib.hid hR
 have hm := tmod64 hb
 clear hR
 obtain h1 | h1 : b % 64 = 0 \/ b % 64 ≠ 0 := by omega
 ·have hm1 : b.tmod 64 = 0 := by omega
  clear hm
  obtain h2 | h2 : 0 < b \/ ¬ 0 < b := by omega
  ·obtain h3 | h3 : b <= 1099511627776 \/ ¬ b <= 1099511627776 := by omega
   ·have HRt := Lib.hid (show R = true by rw [HR.out]; exact (bOk_iff b).2 ⟨h1, h2, h3⟩)
    go_enter Tryz.func103, Tryz.ntmps103
    go_wp2
    go_ret
    exact ⟨by rw [HRt.out]; rfl, rfl⟩
   ·have HRt := Lib.hid (show R = false by rw [HR.out, Bool.eq_false_iff]; intro h; have := (bOk_iff b).1 h; omega)
    go_enter Tryz.func103, Tryz.ntmps103
    go_wp2
    go_ret
    exact ⟨by rw [HRt.out]; rfl, rfl⟩
  ·have HRt := Lib.hid (show R = false by rw [HR.out, Bool.eq_false_iff]; intro h; have := (bOk_iff b).1 h; omega)
   go_enter Tryz.func103, Tryz.ntmps103
   go_wp2
   go_ret
   exact ⟨by rw [HRt.out]; rfl, rfl⟩
 ·have hm1 : (b.tmod 64 == 0) = false := by rw [hm]; simpa using h1
  have HRt := Lib.hid (show R = false by rw [HR.out, Bool.eq_false_iff]; intro h; have := (bOk_iff b).1 h; omega)
  clear hm
  go_enter Tryz.func103, Tryz.ntmps103
  go_wp2
  go_ret
  exact ⟨by rw [HRt.out]; rfl, rfl⟩
theorem fmay_any {b : Int} (hb : 0 <= b) (n : Nd) (w : World) : Calls Tryz.prog 113 #[.int .u64 b, n.V] w fun e w' => e = .returned (.bool (bOk b && n.may 0 false)) /\ Below w.heap.size w w' := by
 have R0 := Lib.hid (Row.new w 71 n.cl.toArray)
 have HB := Lib.hid (isBase_any hb (w.alloc (.cells n.cl.toArray 71)))
 have HM := Lib.hid (nMay_any n 0 false (w.alloc (.cells n.cl.toArray 71)))
 have HB0 := Lib.hid (alloc_low w (.cells n.cl.toArray 71))
 generalize bOk b = c at HB ⊢
 generalize n.may 0 false = m at HM ⊢
 cases c with
 | false =>
  go_enter Tryz.func113, Tryz.ntmps113
  go_wp2_with (go_at_call 103; refine HB.out.mono ?_; rintro e w' ⟨rfl, rfl⟩)
  go_ret
  exact ⟨rfl, HB0.out⟩
 | true =>
  go_enter Tryz.func113, Tryz.ntmps113
  go_wp2_with (first
   | (go_at_call 103; refine HB.out.mono ?_; rintro e w' ⟨rfl, rfl⟩)
   | (refine wpList_load_midg (by rfl) _ _ rfl w.heap.size 0 rfl n.cl _ (ndR R0.out) Tryz.underlying71 rfl ndI ?_)
   | (go_at_call 112; refine HM.out.mono ?_; rintro e w2 ⟨rfl, h2⟩))
  go_ret
  exact ⟨rfl, low_and HB0.out h2⟩
def Nd.mayHave (n : Nd) (key : Int) : Bool := decide (n.lo < key) || (decide (key = n.lo) && decide (n.l = 0))
def SetOut (w : World) (b : Nat) (r : Option Nd) (e : Ending) (w' : World) : Prop :=
 match r with
 | some m => e = .returned (.bool true) /\ ∃ i u, w' = w.setCell ⟨b, i, none⟩ u /\ NdAt w' b m
 | none => e = .returned (.bool false) /\ w' = w
theorem at_k {at_ : Int} (h : 64 <= at_ /\ at_ < 192) (h16 : at_ % 16 = 0) : ∃ i : Nat, i < 8 /\ at_ = 64 + 16 * (i : Int) := ⟨((at_ - 64) / 16).toNat, by omega, by omega⟩
theorem at_p {at_ : Int} (h : 64 <= at_ /\ at_ < 192) (h8 : at_ % 8 = 0) (h16 : at_ % 16 ≠ 0) : ∃ i : Nat, i < 8 /\ at_ = 72 + 16 * (i : Int) := ⟨((at_ - 64) / 16).toNat, by omega, by omega⟩
theorem setK_cl (n : Nd) {i : Nat} (hi : i < 8) (x : Int) : n.cl.set (5 + i) (uw x) = (n.setK i x).cl := by
 rcases lt8 hi with rfl | rfl | rfl | rfl | rfl | rfl | rfl | rfl <;> rfl
theorem setP_cl (n : Nd) {i : Nat} (hi : i < 8) (x : Int) : n.cl.set (13 + i) (uw x) = (n.setP i x).cl := by
 rcases lt8 hi with rfl | rfl | rfl | rfl | rfl | rfl | rfl | rfl <;> rfl
theorem set_row {w : World} {b i : Nat} {n m : Nd} {u : Value} (h : NdAt w b n) (hm : n.cl.set i u = m.cl) : NdAt (w.setCell ⟨b, i, none⟩ u) b m := by
 have := Row.set h i u
 rw [List.setIfInBounds_toArray, hm] at this
 exact this
theorem set_any {w : World} {b : Nat} {n : Nd} (h : NdAt w b n) {at_ : Int} (ha : 0 <= at_ /\ at_ < 18446744073709551616) (word : Int) : Calls Tryz.prog 104 #[.pointer (some ⟨b, 0, none⟩), .int .u64 at_, .int .u64 word] w (SetOut w b (ap 0 n (at_, word))) := by
 have HR := Lib.hid h
 have hfree := fun i => h.free i
 have hcells := fun i => ndAt_at h i
 have hlt := h.lt
 obtain h1 | h1 : at_ = 8 \/ at_ ≠ 8 := by omega
 ·subst h1
  have f := hfree 1
  have c := hcells 1
  have HE := Lib.hid (show ap 0 n (8, word) = some { n with lo := word } from rfl)
  clear h hfree hcells
  go_enter Tryz.func104, Tryz.ntmps104
  go_wp2
  go_ret
  rw [HE.out]
  exact ⟨rfl, 1, _, rfl, set_row HR.out (rfl)⟩
 ·have b1 : (at_ == 8) = false := by simpa using h1
  obtain h2 | h2 : at_ = 16 \/ at_ ≠ 16 := by omega
  ·subst h2
   have f := hfree 2
   have c := hcells 2
   have HE := Lib.hid (show ap 0 n (16, word) = some { n with nx := word } from rfl)
   clear h hfree hcells
   go_enter Tryz.func104, Tryz.ntmps104
   go_wp2
   go_ret
   rw [HE.out]
   exact ⟨rfl, 2, _, rfl, set_row HR.out (rfl)⟩
  ·have b2 : (at_ == 16) = false := by simpa using h2
   obtain h3 | h3 : at_ = 24 \/ at_ ≠ 24 := by omega
   ·subst h3
    have f := hfree 3
    have c := hcells 3
    have HE := Lib.hid (show ap 0 n (24, word) = some { n with ct := word } from rfl)
    clear h hfree hcells
    go_enter Tryz.func104, Tryz.ntmps104
    go_wp2
    go_ret
    rw [HE.out]
    exact ⟨rfl, 3, _, rfl, set_row HR.out (rfl)⟩
   ·have b3 : (at_ == 24) = false := by simpa using h3
    obtain h4 | h4 : at_ = 32 \/ at_ ≠ 32 := by omega
    ·subst h4
     have f := hfree 4
     have c := hcells 4
     have HE := Lib.hid (show ap 0 n (32, word) = some { n with fi := word } from rfl)
     clear h hfree hcells
     go_enter Tryz.func104, Tryz.ntmps104
     go_wp2
     go_ret
     rw [HE.out]
     exact ⟨rfl, 4, _, rfl, set_row HR.out (rfl)⟩
    ·have b4 : (at_ == 32) = false := by simpa using h4
     obtain h5 | h5 : at_ = 0 \/ at_ ≠ 0 := by omega
     ·have b5 : (at_ == 0) = true := by simpa using h5
      have HE := Lib.hid (show ap 0 n (at_, word) = none by unfold ap; dsimp only; rw [if_neg (by omega), if_neg (by omega), if_neg (by omega), if_neg (by omega), if_neg (by omega)])
      clear h hfree hcells
      go_enter Tryz.func104, Tryz.ntmps104
      go_wp2
      go_ret
      rw [HE.out]
      exact ⟨rfl, rfl⟩
     ·have b5 : (at_ == 0) = false := by simpa using h5
      obtain h6 | h6 : at_ < 64 \/ ¬ at_ < 64 := by omega
      ·obtain h7 | h7 : 32 < at_ \/ ¬ 32 < at_ := by omega
       ·have HE := Lib.hid (show ap 0 n (at_, word) = none by unfold ap; dsimp only; rw [if_neg (by omega), if_neg (by omega), if_neg (by omega), if_neg (by omega), if_neg (by omega)])
        clear h hfree hcells
        go_enter Tryz.func104, Tryz.ntmps104
        go_wp2
        go_ret
        rw [HE.out]
        exact ⟨rfl, rfl⟩
       ·have hm : at_.tmod 8 = at_ % 8 := Int.tmod_eq_emod_of_nonneg ha.1
        have h8 : at_ % 8 ≠ 0 := by omega
        have b8 : (at_ % 8 != 0) = true := by simpa using h8
        have b8' : (at_.tmod 8 != 0) = true := by rw [hm]; simpa using h8
        have h9 : ¬ 192 <= at_ := by omega
        clear hm
        have HE := Lib.hid (show ap 0 n (at_, word) = none by unfold ap; dsimp only; rw [if_neg (by omega), if_neg (by omega), if_neg (by omega), if_neg (by omega), if_neg (by omega)])
        clear h hfree hcells
        go_enter Tryz.func104, Tryz.ntmps104
        go_wp2
        go_ret
        rw [HE.out]
        exact ⟨rfl, rfl⟩
      ·obtain h7 | h7 : 192 <= at_ \/ ¬ 192 <= at_ := by omega
       ·have h8 : 32 < at_ := by omega
        have HE := Lib.hid (show ap 0 n (at_, word) = none by unfold ap; dsimp only; rw [if_neg (by omega), if_neg (by omega), if_neg (by omega), if_neg (by omega), if_neg (by omega)])
        clear h hfree hcells
        go_enter Tryz.func104, Tryz.ntmps104
        go_wp2
        go_ret
        rw [HE.out]
        exact ⟨rfl, rfl⟩
       ·have h8 : 32 < at_ := by omega
        have hm : at_.tmod 8 = at_ % 8 := Int.tmod_eq_emod_of_nonneg ha.1
        have hm16 : at_.tmod 16 = at_ % 16 := Int.tmod_eq_emod_of_nonneg ha.1
        obtain h9 | h9 : at_ % 8 ≠ 0 \/ at_ % 8 = 0 := by omega
        ·have b8 : (at_ % 8 != 0) = true := by simpa using h9
         have b8' : (at_.tmod 8 != 0) = true := by rw [hm]; simpa using h9
         clear hm hm16
         have HE := Lib.hid (show ap 0 n (at_, word) = none by unfold ap; dsimp only; rw [if_neg (by omega), if_neg (by omega), if_neg (by omega), if_neg (by omega), if_neg (by omega)])
         clear h hfree hcells
         go_enter Tryz.func104, Tryz.ntmps104
         go_wp2
         go_ret
         rw [HE.out]
         exact ⟨rfl, rfl⟩
        ·obtain h10 | h10 : at_ % 16 = 0 \/ at_ % 16 ≠ 0 := by omega
         ·obtain ⟨i, hi, he⟩ := at_k (by omega) h10
          have HE := Lib.hid (show ap 0 n (at_, word) = some (n.setK i word) by have := ap_k 0 n hi word; unfold kA at this; rw [he, show (64 + 16 * (i : Int)) = 0 + 64 + 16 * (i : Int) by omega]; exact this)
          have f := hfree (5 + i)
          have c := ndAt_key h hi
          have b8 : (at_ % 8 != 0) = false := by simpa using h9
          have hs : IntKind.u64.wrap (at_ - 64) = at_ - 64 := by rw [IntKind.wrap_u64]; omega
          have hq : (at_ - 64).tdiv 16 = (i : Int) := by rw [Int.tdiv_eq_ediv_of_nonneg (by omega)]; omega
          have hq2 : (at_ - 64) / 16 = (i : Int) := by omega
          have hi8 : (i : Int) < 8 := by omega
          have b16 : (at_ % 16 == 0) = true := by simpa using h10
          clear h hfree hcells hm hm16 he h9 h10
          go_enter Tryz.func104, Tryz.ntmps104
          go_wp2
          go_ret
          rw [HE.out]
          exact ⟨rfl, 5 + i, _, rfl, set_row HR.out (setK_cl n hi word)⟩
         ·obtain ⟨i, hi, he⟩ := at_p (by omega) h9 h10
          have HE := Lib.hid (show ap 0 n (at_, word) = some (n.setP i word) by have := ap_p 0 n hi word; unfold pA at this; rw [he, show (72 + 16 * (i : Int)) = 0 + 72 + 16 * (i : Int) by omega]; exact this)
          have f := hfree (13 + i)
          have c := ndAt_ptr h hi
          have b8 : (at_ % 8 != 0) = false := by simpa using h9
          have hs : IntKind.u64.wrap (at_ - 64) = at_ - 64 := by rw [IntKind.wrap_u64]; omega
          have hq : (at_ - 64).tdiv 16 = (i : Int) := by rw [Int.tdiv_eq_ediv_of_nonneg (by omega)]; omega
          have hq2 : (at_ - 64) / 16 = (i : Int) := by omega
          have hi8 : (i : Int) < 8 := by omega
          have b16 : (at_ % 16 == 0) = false := by simpa using h10
          clear h hfree hcells hm hm16 he h9 h10
          go_enter Tryz.func104, Tryz.ntmps104
          go_wp2
          go_ret
          rw [HE.out]
          exact ⟨rfl, 13 + i, _, rfl, set_row HR.out (setP_cl n hi word)⟩
theorem run_build_ch (base : Int) (n : Nd) (W : World) : (Instr.build 204 #[(0, .int .u64 base), (1, .agg n.cl.toArray)]).run Tryz.prog W = .ok (.agg (chC base n (.slice none 0 0)).toArray) W := by
 kernel_rfl
theorem wpList_build_ch {ops : Array Oper} {rest : List Oper} {op : Oper} {a : Act} {w : World} {Q : Exit -> Act -> World -> Prop} (hgd : op.guard = none) (x y : Operand) (ho : op.op = .build 204 #[(0, x), (1, y)])
  (base : Int) (n : Nd) (hx : a.eval x = .int .u64 base) (hy : a.eval y = .agg n.cl.toArray) (h : wpList Tryz.prog ops Q rest (a.put op.dst (.agg (chC base n (.slice none 0 0)).toArray)) w) : wpList Tryz.prog ops Q (op :: rest) a w :=
 wpList_plain hgd fun _ hK => by
  unfold Oper.wp execOp
  simp only [ho]
  simp only [List.map_toArray, List.map_cons, List.map_nil, hx, hy, run_build_ch, Sem.run_bind, Sem.run_pure, Result.andThen_ok]
  exact hK _ _ h
theorem begin_any {base : Int} (hb : 0 <= base /\ base <= 1099511627776) (n : Nd) (w : World) : Calls Tryz.prog 75 #[.int .u64 base, n.V] w fun e w' => ∃ b, e = .returned (.pointer (some ⟨b, 0, none⟩)) /\ ChAt w' w.heap.size b base n [(base + 24, IntKind.u64.wrap (n.ct + 1))] /\ Below w.heap.size w w' := by
 have r0 := Row.new w 71 n.cl.toArray
 have HR0 := Lib.hid r0
 obtain ⟨W2, hW2⟩ : ∃ W2, W2 = (w.alloc (.cells n.cl.toArray 71)).alloc (.cells (chC base n (.slice none 0 0)).toArray 204) := ⟨_, rfl⟩
 have c3 : W2.cell? ⟨w.heap.size, 3, none⟩ = some (.int .u64 n.ct) := by rw [hW2]; exact ndAt_at (r0.alloc _) 3
 have hch : ChAt W2 w.heap.size (w.heap.size + 1) base n [] := by
  rw [hW2]
  refine ⟨by omega, .slice none 0 0, ?_, World.ownsRow_nil _ _ _ _, fun e => by cases e⟩
  have := Row.new (w.alloc (.cells n.cl.toArray 71)) 204 (chC base n (.slice none 0 0)).toArray
  simpa only [World.size_alloc] using this
 have HBW := Lib.hid (show Below w.heap.size w W2 by rw [hW2]; exact low_and (alloc_low _ _) (alloc_low _ _))
 have HS := Lib.hid (cstore_any hch (by simp) hb (at_ := 24) (by omega) (IntKind.u64.wrap (n.ct + 1)))
 have HW2 := Lib.hid hW2
 clear r0 hW2 hch
 go_enter Tryz.func75, Tryz.ntmps75
 go_wp2_with (first
  | (refine wpList_load_mid rfl _ _ rfl w.heap.size 0 rfl n.cl _ (ndR HR0.out) Tryz.underlying71 rfl ndI ?_)
  | (refine wpList_build_ch rfl _ _ rfl base n rfl rfl ?_)
  | (rw [<- HW2.out])
  | (go_at_call 76; refine HS.out.mono ?_; rintro e w3 ⟨rfl, h3, hb3⟩))
 go_ret
 exact ⟨_, rfl, h3, HBW.out.trans hb3⟩
theorem cend_any {w : World} {B b : Nat} {base : Int} {n : Nd} {l : List (Int × Int)} (h : ChAt w B b base n l) (hl : l.length <= 1000) (hb : 0 <= base /\ base <= 1099511627776) :
  Calls Tryz.prog 77 #[.pointer (some ⟨b, 0, none⟩)] w fun e w' => (∃ v, e = .returned v /\ w'.ownsRow B 165 2 v (l.length + 1) (flatE (l ++ [(base + 24, IntKind.u64.wrap (n.ct + 2))]))) /\ Below B w w' := by
 have hn := h.node 3 (.int .u64 n.ct) rfl
 have HS := Lib.hid (cstore_any h hl hb (at_ := 24) (by omega) (IntKind.u64.wrap (n.ct + 2)))
 clear h
 go_enter Tryz.func77, Tryz.ntmps77
 go_wp2_with (first
  | (go_at_call 76; refine HS.out.mono ?_; rintro e w3 ⟨rfl, ⟨hB3, v3, hr3, ho3, hn3⟩, hb3⟩; have c22 := (hr3.cell 22).trans List.getElem?_toArray; rw [chC_st] at c22))
 go_ret
 rw [List.length_append] at ho3
 exact ⟨⟨v3, rfl, ho3⟩, hb3⟩
def Nd.had (n : Nd) (p : Int) : Bool := (p == 0) || (p == n.fi) || (List.range n.len).any (fun i => n.ptr i == p)
def refE (b : Int) (n : Nd) (l : List Int) : Int := if (bOk b && n.may 0 false && l.all (fun p => !n.had p)) = true then (if 0 <= n.inv then 7 else 0) else 2
theorem had_yes {n : Nd} {p : Int} {k : Nat} (hk : k < n.len) (h : n.ptr k = p) : n.had p = true := by
 unfold Nd.had
 rw [Bool.or_eq_true]
 right
 rw [List.any_eq_true]
 exact ⟨k, List.mem_range.2 hk, by simpa using h⟩
theorem had_no {n : Nd} {p : Int} (h0 : p ≠ 0) (h1 : p ≠ n.fi) (h : ∀ i, i < n.len -> n.ptr i ≠ p) : n.had p = false := by
 unfold Nd.had
 rw [Bool.eq_false_iff]
 simp only [ne_eq, Bool.or_eq_true, beq_iff_eq, h0, h1, false_or, List.any_eq_true, List.mem_range, not_exists, not_and]
 exact h
theorem AdsAt.low {w w' : World} {v : Value} {l : List Int} (h : AdsAt w v l) (hb : Below w.heap.size w w') : AdsAt w' v l := by
 obtain ⟨A, cap, rfl, h⟩ := h
 refine ⟨A, cap, rfl, fun h0 => ?_⟩
 obtain ⟨g, o, rfl, hc⟩ := h h0
 exact ⟨g, o, rfl, fun i x hx => (hb.cell (p := ⟨g, o + i, none⟩) (w.block_lt_of_cell? _ (hc i x hx))).trans (hc i x hx)⟩
theorem run_ptrs (g : Nat) {L : Nat} (hL : L <= 8) (W : World) : (Instr.sliceAt 69 (.pointer (some ⟨g, 13, none⟩)) none (some (.int .i64 (L : Int))) none).run Tryz.prog W = .ok (.slice (some ⟨g, 13, none⟩) L 8) W := by
 have hal : Tryz.prog.arrayLen 69 = 8 := by simp [Program.arrayLen, Tryz.underlying69]
 have hel : Tryz.prog.elem 69 = 30 := by simp [Program.elem, Tryz.underlying69]
 have hz := Tryz.sizeOf30
 rw [run_sliceAt_array_h W 69 ⟨g, 13, none⟩ (by simp [Program.arrayLen, Program.elem, Tryz.underlying69]) .i64 (L : Int) (by omega) (by rw [hal]; omega)]
 rw [hal, hel]
 go_simp
theorem areNew_any (n : Nd) {w : World} {v : Value} {l : List Int} (h : AdsAt w v l) (hl : l.length <= 1000) : Calls Tryz.prog 114 #[n.V, v] w fun e w' => e = .returned (.bool (l.all fun p => !n.had p)) /\ Below w.heap.size w w' := by
 obtain ⟨A, cap, rfl, hA0⟩ := h
 have r0 := Row.new w 71 n.cl.toArray
 obtain ⟨Wa, hWa⟩ : ∃ Wa, Wa = w.alloc (.cells n.cl.toArray 71) := ⟨_, rfl⟩
 rw [<- hWa] at r0
 have hb0 : Below w.heap.size w Wa := by rw [hWa]; exact alloc_low _ _
 have HB0 := Lib.hid hb0
 have HRR := Lib.hid (fun W' (hb : Below Wa.heap.size Wa W') => (show NdAt W' w.heap.size n from r0.below hb r0.lt))
 have HC4 := Lib.hid (fun W' (hb : Below Wa.heap.size Wa W') => (show W'.cell? ⟨w.heap.size, 4, none⟩ = some (.int .u64 n.fi) from ndAt_at (HRR.out W' hb) 4))
 have HWa := Lib.hid hWa
 have HL := Lib.hid (fun W' => nlen_any n W')
 have hln := n.len_le
 obtain ⟨m, hm⟩ : ∃ m, m = l.length := ⟨_, rfl⟩
 have HA := Lib.hid (fun (h0 : 0 < m) => (show ∃ g o, A = some ⟨g, o, none⟩ /\ ∀ k, k < m -> ∀ W', Below Wa.heap.size Wa W' -> W'.cell? ⟨g, o + k, none⟩ = some (.int .u64 (l.getD k 0)) by
  obtain ⟨g, o, rfl, hc⟩ := hA0 (by omega)
  refine ⟨g, o, rfl, fun k hk W' hb => ?_⟩
  have hx := hc k (l.getD k 0) (by rw [List.getD_eq_getElem?_getD, List.getElem?_eq_getElem (by omega)]; rfl)
  have hbb := low_and hb0 hb
  exact (hbb.cell (p := ⟨g, o + k, none⟩) (w.block_lt_of_cell? _ hx)).trans hx))
 have HAll := Lib.hid (show (∀ k, k < m -> n.had (l.getD k 0) = false) -> (l.all fun p => !n.had p) = true by
  intro h
  rw [List.all_eq_true]
  intro x hx
  obtain ⟨k, hk, rfl⟩ := List.getElem_of_mem hx
  have := h k (by omega)
  rw [List.getD_eq_getElem?_getD, List.getElem?_eq_getElem hk] at this
  simpa using this)
 have HAny := Lib.hid (show ∀ k, k < m -> n.had (l.getD k 0) = true -> (l.all fun p => !n.had p) = false by
  intro k hk h
  rw [Bool.eq_false_iff]
  intro hh
  rw [List.all_eq_true] at hh
  have := hh (l.getD k 0) (by rw [List.getD_eq_getElem?_getD, List.getElem?_eq_getElem (by omega)]; exact List.getElem_mem _)
  rw [h] at this
  cases this)
 obtain ⟨F, hF⟩ : ∃ F, F = (l.all fun p => !n.had p) := ⟨_, rfl⟩
 rw [<- hF] at HAll HAny
 rw [<- hF, <- hm]
 rw [<- hm] at hl
 clear r0 hWa hF hm hA0 hb0
 go_enter Tryz.func114, Tryz.ntmps114
 go_wp2_with fail
 rw [<- HWa.out]
 go_loopw [11] (fun i wr => ∃ k : Nat, k <= m /\ i = .int .i64 (k : Int) /\ (∀ j, j < k -> n.had (l.getD j 0) = false) /\ Below Wa.heap.size Wa wr) (fun i _ => m - (intOf i).toNat)
 case atStart => exact ⟨0, by omega, rfl, fun p hp => by omega, Below.refl _ _⟩
 case round =>
  rename World => wr
  obtain ⟨k, hk, rfl, hne, hb⟩ := hrel
  have HNE := Lib.hid hne
  clear hne
  by_cases hlt : k < m
  ·obtain ⟨g, o, rfl, hcl⟩ := HA.out (by omega)
   have ca := hcl k hlt wr hb
   have c4 := HC4.out wr hb
   have hki : (k : Int) < (m : Int) := by omega
   have HAk := Lib.hid (HAny.out k hlt)
   have HNk := Lib.hid (fun h0 h1 h => had_no (n := n) (p := l.getD k 0) h0 h1 h)
   have HYk := Lib.hid (fun j hj h => had_yes (n := n) (p := l.getD k 0) (k := j) hj h)
   have HZk := Lib.hid (show l.getD k 0 = 0 -> n.had (l.getD k 0) = true from fun h => by rw [h]; rfl)
   have HWk := Lib.hid (show l.getD k 0 = n.fi -> n.had (l.getD k 0) = true from fun h => by unfold Nd.had; rw [h]; simp)
   obtain ⟨p, hp⟩ : ∃ p, p = l.getD k 0 := ⟨_, rfl⟩
   rw [<- hp] at ca HAk HNk HYk HZk HWk
   have HP := Lib.hid hp
   clear hp hcl
   obtain h0 | h0 : p = 0 \/ p ≠ 0 := by omega
   ·have HFf := Lib.hid (HAk.out (HZk.out h0))
    rw [h0] at ca
    clear h0
    go_wp2
    go_ret
    exact ⟨by rw [HFf.out]; rfl, low_and HB0.out hb⟩
   ·have h0b : (p == 0) = false := by simpa using h0
    obtain h1 | h1 : p = n.fi \/ p ≠ n.fi := by omega
    ·have HFf := Lib.hid (HAk.out (HWk.out h1))
     have h1b : (p == n.fi) = true := by simpa using h1
     clear h1
     go_wp2
     go_ret
     exact ⟨by rw [HFf.out]; rfl, low_and HB0.out hb⟩
    ·have h1b : (p == n.fi) = false := by simpa using h1
     have HNk2 := Lib.hid (HNk.out h0 h1)
     have hsl := fun W => run_ptrs w.heap.size hln W
     clear h1
     go_wp2_with (first
      | (refine wpList_load_mid rfl _ _ rfl w.heap.size 0 rfl n.cl _ (ndR (HRR.out _ (by assumption))) Tryz.underlying71 rfl ndI ?_)
      | (go_at_call 83; refine (HL.out _).mono ?_; rintro e w2 ⟨rfl, hb2⟩; have hb2 := low_and hb hb2))
     go_loopw [28] (fun i wr => ∃ j : Nat, j <= n.len /\ i = .int .i64 (j : Int) /\ (∀ q, q < j -> n.ptr q ≠ p) /\ Below Wa.heap.size Wa wr) (fun i _ => n.len - (intOf i).toNat)
     case atStart => exact ⟨0, by omega, rfl, fun p hp => by omega, hb2⟩
     case round =>
      rename World => wq
      obtain ⟨j, hj, rfl, hnj, hbq⟩ := hrel
      have HNJ := Lib.hid hnj
      clear hnj
      by_cases hjl : j < n.len
      ·have hj8 : (j : Int) < (n.len : Int) := by omega
       have cj := ndAt_ptr (HRR.out _ hbq) (i := j) (by omega)
       have HYj := Lib.hid (HYk.out j hjl)
       obtain ⟨y, hy⟩ : ∃ y, y = n.ptr j := ⟨_, rfl⟩
       rw [<- hy] at cj HYj
       have HYe := Lib.hid hy
       clear hy
       obtain hyp | hyp : p = y \/ p ≠ y := by omega
       ·have HFf := Lib.hid (HAk.out (HYj.out hyp.symm))
        have hyb : (p == y) = true := by simpa using hyp
        clear hyp
        go_wp2
        go_ret
        exact ⟨by rw [HFf.out]; rfl, low_and HB0.out hbq⟩
       ·have hyb : (p == y) = false := by simpa using hyp
        go_wp2
        refine ⟨⟨j + 1, by omega, by go_num, fun q hq => ?_, hbq⟩, by simp [intOf]; omega⟩
        rcases Nat.lt_or_eq_of_le (Nat.le_of_lt_succ hq) with h | rfl
        ·exact HNJ.out q h
        ·rw [<- HYe.out]; exact fun e => hyp e.symm
      ·obtain rfl : j = n.len := by omega
       have HNo := Lib.hid (HNk2.out HNJ.out)
       go_wp2
       refine ⟨⟨k + 1, by omega, by go_num, fun q hq => ?_, hbq⟩, by simp [intOf]; omega⟩
       rcases Nat.lt_or_eq_of_le (Nat.le_of_lt_succ hq) with h | rfl
       ·exact HNE.out q h
       ·rw [<- HP.out]; exact HNo.out
  ·obtain rfl : k = m := by omega
   have HFf := Lib.hid (HAll.out HNE.out)
   go_wp2
   go_ret
   exact ⟨by rw [HFf.out]; rfl, low_and HB0.out hb⟩
theorem refE_cases (b : Int) (n : Nd) (l : List Int) : refE b n l = if (bOk b && n.may 0 false) = true then (if (l.all fun p => !n.had p) = true then (if 0 <= n.inv then 7 else 0) else 2) else 2 := by
 unfold refE
 cases (bOk b && n.may 0 false) <;> cases (l.all fun p => !n.had p) <;> simp
theorem refusal_any {b : Int} (hb : 0 <= b) (n : Nd) {w : World} {v : Value} {l : List Int} (h : AdsAt w v l) (hl : l.length <= 1000) : Calls Tryz.prog 74 #[.int .u64 b, n.V, v] w fun e w' => e = .returned (.int .i64 (refE b n l)) /\ Below w.heap.size w w' := by
 have r0 := Row.new w 71 n.cl.toArray
 obtain ⟨Wa, hWa⟩ : ∃ Wa, Wa = w.alloc (.cells n.cl.toArray 71) := ⟨_, rfl⟩
 rw [<- hWa] at r0
 have hb0 : Below w.heap.size w Wa := by rw [hWa]; exact alloc_low _ _
 have HB0 := Lib.hid hb0
 have HRR := Lib.hid (fun W' (hb : Below Wa.heap.size Wa W') => (show NdAt W' w.heap.size n from r0.below hb r0.lt))
 have HWa := Lib.hid hWa
 have HM := Lib.hid (fun W' => fmay_any hb n W')
 have HN := Lib.hid (fun W' (hb : Below Wa.heap.size Wa W') => areNew_any n (h.low (low_and hb0 hb)) hl)
 have HI := Lib.hid (fun W' => nInv_any n W')
 have HE := refE_cases b n l
 obtain ⟨A, cap, rfl, _⟩ := h
 generalize refE b n l = E at HE ⊢
 generalize (bOk b && n.may 0 false) = c at HM HE
 generalize (l.all fun p => !n.had p) = d at HN HE
 generalize l.length = m at HN hl ⊢
 have hi0 : 0 <= n.inv \/ ¬ 0 <= n.inv := by omega
 generalize n.inv = iv at HI HE hi0
 have hr0 := Below.refl Wa.heap.size Wa
 clear r0 hWa hb0
 cases c with
 | false =>
  have HE2 := Lib.hid (show E = 2 from HE)
  clear HE
  go_enter Tryz.func74, Tryz.ntmps74
  go_wp2_with (first
   | (rw [<- HWa.out]; refine wpList_load_mid rfl _ _ rfl w.heap.size 0 rfl n.cl _ (ndR (HRR.out _ (by assumption))) Tryz.underlying71 rfl ndI ?_)
   | (go_at_call 113; refine (HM.out _).mono ?_; rintro e w1 ⟨rfl, h1⟩; have h1 := low_and hr0 h1))
  go_ret
  exact ⟨by rw [HE2.out]; rfl, low_and HB0.out h1⟩
 | true =>
  cases d with
  | false =>
   have HE2 := Lib.hid (show E = 2 from HE)
   clear HE
   go_enter Tryz.func74, Tryz.ntmps74
   go_wp2_with (first
    | (rw [<- HWa.out]; refine wpList_load_mid rfl _ _ rfl w.heap.size 0 rfl n.cl _ (ndR (HRR.out _ (by assumption))) Tryz.underlying71 rfl ndI ?_)
    | (refine wpList_load_midg (by rfl) _ _ rfl w.heap.size 0 rfl n.cl _ (ndR (HRR.out _ (by assumption))) Tryz.underlying71 rfl ndI ?_)
    | (go_at_call 113; refine (HM.out _).mono ?_; rintro e w1 ⟨rfl, h1⟩; have h1 := low_and hr0 h1)
    | (go_at_call 114; refine (HN.out _ h1).mono ?_; rintro e w2 ⟨rfl, h2⟩; have h2 := low_and h1 h2))
   go_ret
   exact ⟨by rw [HE2.out]; rfl, low_and HB0.out h2⟩
  | true =>
   rcases hi0 with hi | hi
   ·have HE2 := Lib.hid (show E = 7 by rw [HE, if_pos rfl, if_pos rfl, if_pos hi])
    clear HE
    go_enter Tryz.func74, Tryz.ntmps74
    go_wp2_with (first
     | (rw [<- HWa.out]; refine wpList_load_mid rfl _ _ rfl w.heap.size 0 rfl n.cl _ (ndR (HRR.out _ (by assumption))) Tryz.underlying71 rfl ndI ?_)
     | (refine wpList_load_mid rfl _ _ rfl w.heap.size 0 rfl n.cl _ (ndR (HRR.out _ (by assumption))) Tryz.underlying71 rfl ndI ?_)
     | (refine wpList_load_midg (by rfl) _ _ rfl w.heap.size 0 rfl n.cl _ (ndR (HRR.out _ (by assumption))) Tryz.underlying71 rfl ndI ?_)
     | (go_at_call 113; refine (HM.out _).mono ?_; rintro e w1 ⟨rfl, h1⟩; have h1 := low_and hr0 h1)
     | (go_at_call 114; refine (HN.out _ h1).mono ?_; rintro e w2 ⟨rfl, h2⟩; have h2 := low_and h1 h2)
     | (go_at_call 115; refine (HI.out _).mono ?_; rintro e w3 ⟨rfl, h3⟩; have h3 := low_and h2 h3))
    go_ret
    exact ⟨by rw [HE2.out]; rfl, low_and HB0.out h3⟩
   ·have HE2 := Lib.hid (show E = 0 by rw [HE, if_pos rfl, if_pos rfl, if_neg hi])
    clear HE
    go_enter Tryz.func74, Tryz.ntmps74
    go_wp2_with (first
     | (rw [<- HWa.out]; refine wpList_load_mid rfl _ _ rfl w.heap.size 0 rfl n.cl _ (ndR (HRR.out _ (by assumption))) Tryz.underlying71 rfl ndI ?_)
     | (refine wpList_load_mid rfl _ _ rfl w.heap.size 0 rfl n.cl _ (ndR (HRR.out _ (by assumption))) Tryz.underlying71 rfl ndI ?_)
     | (refine wpList_load_midg (by rfl) _ _ rfl w.heap.size 0 rfl n.cl _ (ndR (HRR.out _ (by assumption))) Tryz.underlying71 rfl ndI ?_)
     | (go_at_call 113; refine (HM.out _).mono ?_; rintro e w1 ⟨rfl, h1⟩; have h1 := low_and hr0 h1)
     | (go_at_call 114; refine (HN.out _ h1).mono ?_; rintro e w2 ⟨rfl, h2⟩; have h2 := low_and h1 h2)
     | (go_at_call 115; refine (HI.out _).mono ?_; rintro e w3 ⟨rfl, h3⟩; have h3 := low_and h2 h3))
    go_ret
    exact ⟨by rw [HE2.out]; rfl, low_and HB0.out h3⟩
def PutsOut (w : World) (r : List (Int × Int) × Int) (e : Ending) (w' : World) : Prop :=
 (∃ v, e = .returned (.tuple #[v, .int .i64 r.2]) /\ w'.ownsRow w.heap.size 165 2 v r.1.length (flatE r.1)) /\ Below w.heap.size w w'
def wholeL (base : Int) (n : Nd) (l : List (Int × Int)) : List (Int × Int) := [(base + 24, IntKind.u64.wrap (n.ct + 1))] ++ l ++ [(base + 24, IntKind.u64.wrap (n.ct + 2))]
theorem refE_base {b : Int} {n : Nd} {l : List Int} (h : refE b n l = 0) : 0 <= b /\ b <= 1099511627776 := by
 unfold refE at h
 split at h
 ·rename_i hc
  rw [Bool.and_eq_true, Bool.and_eq_true] at hc
  have := (bOk_iff b).1 hc.1.1
  omega
 ·omega
theorem ChAt.mono {w : World} {B B' b : Nat} {base : Int} {n : Nd} {l : List (Int × Int)} (h : ChAt w B b base n l) (hb : B' <= B) : ChAt w B' b base n l := by
 obtain ⟨hB, v, hr, ho, hn⟩ := h
 exact ⟨by omega, v, hr, ownS_mono ho hb, hn⟩
def cutP (base : Int) (n : Nd) (high : Int) : List (Int × Int) × Int :=
 if refE base n [] ≠ 0 then ([], refE base n []) else if (n.act high true).length = n.len then ([], 5) else (wholeL base n [(pA base (n.act high true).length, 0)], 0)
def linkP (base : Int) (n : Nd) (next : Int) : List (Int × Int) × Int :=
 if refE base n [] ≠ 0 then ([], refE base n []) else (wholeL base n [(base + 16, next)], 0)
theorem ads_nil (w : World) : AdsAt w (.slice none 0 0) [] := ⟨none, 0, rfl, fun h => by simp at h⟩
theorem own_shape {w : World} {B s n : Nat} {e : TypeId} {v : Value} {xs : List Value} (h : w.ownsRow B e s v n xs) : ∃ A cap, v = .slice A n cap := by
 rcases h.2 with ⟨rfl, h0⟩ | ⟨g, cap, cur, rfl, _⟩
 ·exact ⟨none, 0, by rw [h0]⟩
 ·exact ⟨_, cap, rfl⟩
theorem cut_any {base : Int} (hb : 0 <= base) (n : Nd) (high : Int) (w : World) : Calls Tryz.prog 45 #[.int .u64 base, n.V, .int .u64 high] w (PutsOut w (cutP base n high)) := by
 have r0 := Row.new w 71 n.cl.toArray
 obtain ⟨Wa, hWa⟩ : ∃ Wa, Wa = w.alloc (.cells n.cl.toArray 71) := ⟨_, rfl⟩
 rw [<- hWa] at r0
 have hb0 : Below w.heap.size w Wa := by rw [hWa]; exact alloc_low _ _
 have HB0 := Lib.hid hb0
 have HRR := Lib.hid (fun W' (hb : Below Wa.heap.size Wa W') => (show NdAt W' w.heap.size n from r0.below hb r0.lt))
 have HWa := Lib.hid hWa
 have HWs := Lib.hid (show w.heap.size <= Wa.heap.size from hb0.size)
 have hl8 := n.len_le
 have hr0 := Below.refl Wa.heap.size Wa
 have HRef := Lib.hid (refusal_any hb n (ads_nil Wa) (by simp))
 have hP : cutP base n high = (if refE base n [] ≠ 0 then ([], refE base n []) else if (n.act high true).length = n.len then ([], 5) else (wholeL base n [(pA base (n.act high true).length, 0)], 0)) := rfl
 have hbb := fun h => refE_base (b := base) (n := n) (l := []) h
 have HAc := Lib.hid (fun W' => nActive_any n high true W')
 have HLn := Lib.hid (fun W' => nlen_any n W')
 have hal := n.act_len high true
 generalize flatE (n.act high true) = fl at HAc
 obtain ⟨m, hm⟩ : ∃ m, m = (n.act high true).length := ⟨_, rfl⟩
 rw [<- hm] at HAc hP hal
 have HMl := Lib.hid hm
 clear hm
 generalize hR : cutP base n high = R at hP ⊢
 generalize refE base n [] = E at HRef hP hbb
 clear r0 hWa hb0 hR
 obtain hE | hE : E ≠ 0 \/ E = 0 := by omega
 ·have HR := Lib.hid (show R = ([], E) by rw [hP, if_pos hE])
  have hEb : (E != 0) = true := by simpa using hE
  clear hP hbb
  go_enter Tryz.func45, Tryz.ntmps45
  go_wp2_with (first
   | (rw [<- HWa.out]; (refine wpList_load_mid rfl _ _ rfl w.heap.size 0 rfl n.cl _ (ndR (HRR.out _ (by assumption))) Tryz.underlying71 rfl ndI ?_))
   | (refine wpList_load_mid rfl _ _ rfl w.heap.size 0 rfl n.cl _ (ndR (HRR.out _ (by assumption))) Tryz.underlying71 rfl ndI ?_)
   | (go_at_call 74; refine HRef.out.mono ?_; rintro e w1 ⟨rfl, h1⟩; have h1 := low_and hr0 h1))
  go_ret2
  rw [HR.out]
  exact ⟨⟨_, rfl, World.ownsRow_nil _ _ _ _⟩, low_and HB0.out h1⟩
 ·subst hE
  rw [if_neg (by simp)] at hP
  have hbse := hbb rfl
  have HBg := Lib.hid (fun W' => begin_any hbse n W')
  clear hbb
  obtain hm | hm : m = n.len \/ m ≠ n.len := by omega
  ·have HR := Lib.hid (show R = ([], 5) by rw [hP, if_pos hm])
   clear hP
   rw [hm] at HAc
   have hmm : ((n.len : Int) == (n.len : Int)) = true := by simp
   go_enter Tryz.func45, Tryz.ntmps45
   go_wp2_with (first
   | (rw [<- HWa.out]; (refine wpList_load_mid rfl _ _ rfl w.heap.size 0 rfl n.cl _ (ndR (HRR.out _ (by assumption))) Tryz.underlying71 rfl ndI ?_))
   | (refine wpList_load_mid rfl _ _ rfl w.heap.size 0 rfl n.cl _ (ndR (HRR.out _ (by assumption))) Tryz.underlying71 rfl ndI ?_)
   | (go_at_call 74; refine HRef.out.mono ?_; rintro e w1 ⟨rfl, h1⟩; have h1 := low_and hr0 h1)
   | (go_at_call 68; refine (HAc.out _).mono ?_; rintro e w2 ⟨⟨v0, rfl, ho0⟩, h2⟩; obtain ⟨A0, cap0, rfl⟩ := own_shape ho0; clear ho0; have h2 := low_and h1 h2)
   | (go_at_call 83; refine (HLn.out _).mono ?_; rintro e w3 ⟨rfl, h3⟩; have h3 := low_and h2 h3))
   go_ret2
   rw [HR.out]
   exact ⟨⟨_, rfl, World.ownsRow_nil _ _ _ _⟩, low_and HB0.out h3⟩
  ·have hmb : ((m : Int) == (n.len : Int)) = false := by simp; omega
   have HR := Lib.hid (show R = (wholeL base n [(pA base m, 0)], 0) by rw [hP, if_neg hm])
   have hm8 : m < 8 := by have := actL_len n high true n.vp; have h2 := n.vpTo_len n.len; have h3 := HMl.out; unfold Nd.act at h3; unfold Nd.vp at this; unfold Nd.vp at h3; omega
   have HPt := Lib.hid (fun W b (h : ChAt W w.heap.size b base n [(base + 24, IntKind.u64.wrap (n.ct + 1))]) => cptr_any h (by simp) hbse (p := m) hm8 0)
   have HEnd := Lib.hid (fun W b (h : ChAt W w.heap.size b base n ([(base + 24, IntKind.u64.wrap (n.ct + 1))] ++ [(pA base m, 0)])) => cend_any h (by simp) hbse)
   have HIL := Lib.hid (show wholeL base n [(pA base m, 0)] = [(base + 24, IntKind.u64.wrap (n.ct + 1))] ++ [(pA base m, 0)] ++ [(base + 24, IntKind.u64.wrap (n.ct + 2))] by simp [wholeL])
   clear hP
   go_enter Tryz.func45, Tryz.ntmps45
   go_wp2_with (first
   | (rw [<- HWa.out]; (refine wpList_load_mid rfl _ _ rfl w.heap.size 0 rfl n.cl _ (ndR (HRR.out _ (by assumption))) Tryz.underlying71 rfl ndI ?_))
   | (refine wpList_load_mid rfl _ _ rfl w.heap.size 0 rfl n.cl _ (ndR (HRR.out _ (by assumption))) Tryz.underlying71 rfl ndI ?_)
   | (go_at_call 74; refine HRef.out.mono ?_; rintro e w1 ⟨rfl, h1⟩; have h1 := low_and hr0 h1)
   | (go_at_call 68; refine (HAc.out _).mono ?_; rintro e w2 ⟨⟨v0, rfl, ho0⟩, h2⟩; obtain ⟨A0, cap0, rfl⟩ := own_shape ho0; clear ho0; have h2 := low_and h1 h2)
   | (go_at_call 83; refine (HLn.out _).mono ?_; rintro e w3 ⟨rfl, h3⟩; have h3 := low_and h2 h3)
   | (go_at_call 75; refine (HBg.out _).mono ?_; rintro e w5 ⟨b, rfl, hch, hb5⟩; have hbg := low_and h3 hb5; have HC := Lib.hid (ChAt.mono (B' := w.heap.size) hch (Nat.le_trans HWs.out (Below.size (by assumption : Below Wa.heap.size Wa _)))); clear hch)
   | (go_at_call 84; refine (HPt.out _ _ HC.out).mono ?_; rintro e w7 ⟨rfl, h7, hb7⟩)
   | (go_at_call 77; refine (HEnd.out _ _ h7).mono ?_; rintro e w9 ⟨⟨v, rfl, ho⟩, hb9⟩))
   go_ret2
   rw [HR.out]
   refine ⟨⟨_, rfl, ?_⟩, (low_and HB0.out hbg).trans (hb7.trans hb9)⟩
   rw [HIL.out, List.length_append (bs := [(base + 24, IntKind.u64.wrap (n.ct + 2))])]
   exact ho
theorem link_any {base : Int} (hb : 0 <= base) (n : Nd) (next : Int) (w : World) : Calls Tryz.prog 39 #[.int .u64 base, n.V, .int .u64 next] w (PutsOut w (linkP base n next)) := by
 have r0 := Row.new w 71 n.cl.toArray
 obtain ⟨Wa, hWa⟩ : ∃ Wa, Wa = w.alloc (.cells n.cl.toArray 71) := ⟨_, rfl⟩
 rw [<- hWa] at r0
 have hb0 : Below w.heap.size w Wa := by rw [hWa]; exact alloc_low _ _
 have HB0 := Lib.hid hb0
 have HRR := Lib.hid (fun W' (hb : Below Wa.heap.size Wa W') => (show NdAt W' w.heap.size n from r0.below hb r0.lt))
 have HWa := Lib.hid hWa
 have HWs := Lib.hid (show w.heap.size <= Wa.heap.size from hb0.size)
 have hl8 := n.len_le
 have hr0 := Below.refl Wa.heap.size Wa
 have HRef := Lib.hid (refusal_any hb n (ads_nil Wa) (by simp))
 have hP : linkP base n next = (if refE base n [] ≠ 0 then ([], refE base n []) else (wholeL base n [(base + 16, next)], 0)) := rfl
 have hbb := fun h => refE_base (b := base) (n := n) (l := []) h
 generalize hR : linkP base n next = R at hP ⊢
 generalize refE base n [] = E at HRef hP hbb
 clear r0 hWa hb0 hR
 obtain hE | hE : E ≠ 0 \/ E = 0 := by omega
 ·have HR := Lib.hid (show R = ([], E) by rw [hP, if_pos hE])
  have hEb : (E != 0) = true := by simpa using hE
  clear hP hbb
  go_enter Tryz.func39, Tryz.ntmps39
  go_wp2_with (first
   | (rw [<- HWa.out]; (refine wpList_load_mid rfl _ _ rfl w.heap.size 0 rfl n.cl _ (ndR (HRR.out _ (by assumption))) Tryz.underlying71 rfl ndI ?_))
   | (refine wpList_load_mid rfl _ _ rfl w.heap.size 0 rfl n.cl _ (ndR (HRR.out _ (by assumption))) Tryz.underlying71 rfl ndI ?_)
   | (go_at_call 74; refine HRef.out.mono ?_; rintro e w1 ⟨rfl, h1⟩; have h1 := low_and hr0 h1))
  go_ret2
  rw [HR.out]
  exact ⟨⟨_, rfl, World.ownsRow_nil _ _ _ _⟩, low_and HB0.out h1⟩
 ·subst hE
  rw [if_neg (by simp)] at hP
  have hbse := hbb rfl
  have HBg := Lib.hid (fun W' => begin_any hbse n W')
  clear hbb
  have HR := Lib.hid hP
  have HSt := Lib.hid (fun W b (h : ChAt W w.heap.size b base n [(base + 24, IntKind.u64.wrap (n.ct + 1))]) => cstore_any h (by simp) hbse (at_ := 16) (by omega) next)
  have HEnd := Lib.hid (fun W b (h : ChAt W w.heap.size b base n ([(base + 24, IntKind.u64.wrap (n.ct + 1))] ++ [(base + 16, next)])) => cend_any h (by simp) hbse)
  have HIL := Lib.hid (show wholeL base n [(base + 16, next)] = [(base + 24, IntKind.u64.wrap (n.ct + 1))] ++ [(base + 16, next)] ++ [(base + 24, IntKind.u64.wrap (n.ct + 2))] by simp [wholeL])
  clear hP
  go_enter Tryz.func39, Tryz.ntmps39
  go_wp2_with (first
   | (rw [<- HWa.out]; (refine wpList_load_mid rfl _ _ rfl w.heap.size 0 rfl n.cl _ (ndR (HRR.out _ (by assumption))) Tryz.underlying71 rfl ndI ?_))
   | (refine wpList_load_mid rfl _ _ rfl w.heap.size 0 rfl n.cl _ (ndR (HRR.out _ (by assumption))) Tryz.underlying71 rfl ndI ?_)
   | (go_at_call 74; refine HRef.out.mono ?_; rintro e w1 ⟨rfl, h1⟩; have h1 := low_and hr0 h1)
   | (go_at_call 75; refine (HBg.out _).mono ?_; rintro e w5 ⟨b, rfl, hch, hb5⟩; have hbg := low_and h1 hb5; have HC := Lib.hid (ChAt.mono (B' := w.heap.size) hch (Nat.le_trans HWs.out (Below.size (by assumption : Below Wa.heap.size Wa _)))); clear hch)
   | (go_at_call 76; refine (HSt.out _ _ HC.out).mono ?_; rintro e w7 ⟨rfl, h7, hb7⟩)
   | (go_at_call 77; refine (HEnd.out _ _ h7).mono ?_; rintro e w9 ⟨⟨v, rfl, ho⟩, hb9⟩))
  go_ret2
  rw [HR.out]
  refine ⟨⟨_, rfl, ?_⟩, (low_and HB0.out hbg).trans (hb7.trans hb9)⟩
  rw [HIL.out, List.length_append (bs := [(base + 24, IntKind.u64.wrap (n.ct + 2))])]
  exact ho
end Go.Proofs.YtkbklooocdfcfaaGreatDoor
