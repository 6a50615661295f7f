/- Texts of this claim, packed: ArB, ArB0. -/
import Derived.Test.YtkbklooocdfcfaaGreatDoorPz41
import Derived.Test.YtkbklooocdfcfaaGreatDoorPz43
import Derived.Test.YtkbklooocdfcfaaGreatDoorPz39
import Derived.Test.YtkbklooocdfcfaaGreatDoorPz24
set_option linter.unusedVariables false
set_option maxRecDepth 100000
set_option maxHeartbeats 6400000
namespace Go.Proofs.YtkbklooocdfcfaaGreatDoor
open Go.RowKit
theorem dec_most : ∀ (k u : Nat), u < 10 ^ (k + 1) -> (Lib.decDigits u).length <= k + 1
 | 0, u, h => by rw [Lib.decDigits, dif_pos (by simpa using h)]; simp
 | k + 1, u, h => by
  rw [Lib.decDigits]
  split
  ·simp
  ·have := dec_most k (u / 10) (by rw [Nat.pow_succ] at h; omega)
   rw [List.length_append, List.length_singleton]
   omega
theorem ten20 : (10 : Nat) ^ (19 + 1) = 100000000000000000000 := by decide
theorem numS_len {u : Nat} (h : u < 18446744073709551616) : (numS u).size <= 20 := dec_most 19 u (by rw [ten20]; omega)
def chr (S : ByteArray) (j : Nat) : Nat := (S.data.toList.getD j 0).toNat
theorem chr_lt (S : ByteArray) (j : Nat) : chr S j < 256 := (S.data.toList.getD j 0).toNat_lt
theorem chr_get (S : ByteArray) {j : Nat} (h : j < S.size) : (S[j]'h).toNat = chr S j := by
 unfold chr
 rw [List.getD_eq_getElem?_getD, List.getElem?_eq_getElem (by simpa using h)]
 rfl
def strK (f : Nat -> Nat) (a : Nat) (S : ByteArray) (k : Nat) : Nat -> Nat := fun j => if a <= j /\ j < a + k then chr S (j - a) else f j
theorem strK_zero (f : Nat -> Nat) (a : Nat) (S : ByteArray) : strK f a S 0 = f := by
 funext j
 unfold strK
 rw [if_neg (by omega)]
theorem strK_succ (f : Nat -> Nat) (a : Nat) (S : ByteArray) (k : Nat) : (fun j => if j = a + k then chr S k else strK f a S k j) = strK f a S (k + 1) := by
 funext j
 unfold strK
 by_cases e : j = a + k
 ·subst e
  rw [if_pos rfl, if_pos (by omega), show a + k - a = k by omega]
 ·rw [if_neg e]
  by_cases h : a <= j /\ j < a + k
  ·rw [if_pos h, if_pos (by omega)]
  ·rw [if_neg h, if_neg (by omega)]
theorem strK_byt {f : Nat -> Nat} (h : BytF f) (a : Nat) (S : ByteArray) (k : Nat) : BytF (strK f a S k) := by
 intro j
 unfold strK
 split
 ·exact chr_lt _ _
 ·exact h j
def Ar.val (A : Ar) (key : Nat) : Ar := { A.newValue.2 with f := strK (putF A.newValue.2.f A.newValue.1 (numS key).size) (A.newValue.1 + 8) (numS key) (numS key).size }
theorem Ar.val_ok {A : Ar} (h : A.Ok) (key : Nat) : (A.val key).Ok /\ (A.val key).n = A.n := by
 obtain ⟨h1, h2, _⟩ := Ar.newValue_ok h
 exact ⟨⟨h1.n, h1.used, h1.value, h1.values, h1.node, h1.nodes, strK_byt (h1.byt.put _ _) _ _ _⟩, h2⟩
def bK (A : Ar) (ks : List Nat) : Nat -> Ar
 | 0 => A
 | k + 1 => (bK A ks k).val (ks.getD k 0)
def bE (A : Ar) (ks : List Nat) : Nat -> List (Int × Int)
 | 0 => []
 | k + 1 => bE A ks k ++ [(((ks.getD k 0 : Nat) : Int), (((bK A ks k).newValue.1 : Nat) : Int))]
theorem bE_len (A : Ar) (ks : List Nat) : ∀ k, (bE A ks k).length = k
 | 0 => rfl
 | k + 1 => by rw [bE, List.length_append, bE_len A ks k]; rfl
theorem bK_ok {A : Ar} (h : A.Ok) (ks : List Nat) : ∀ k, (bK A ks k).Ok /\ (bK A ks k).n = A.n
 | 0 => ⟨h, rfl⟩
 | k + 1 => by
  obtain ⟨h1, h2⟩ := bK_ok h ks k
  obtain ⟨h3, h4⟩ := Ar.val_ok h1 (ks.getD k 0)
  exact ⟨h3, h4.trans h2⟩
def b0 (n : Nat) : Ar := ⟨n, 0, 0, 0, 0, 0, fun _ => 0⟩
def b1 (n : Nat) : Ar := { b0 n with f := putF (putF (putF (fun _ => 0) 0 5929342154728227142) 8 (1024 * (n + 1))) 24 (18446744073709551615 - 1024 * (n + 1)) }
theorem b1_ok {n : Nat} (h : n <= 64) : (b1 n).Ok := ⟨h, Nat.zero_le _, Nat.le_refl _, Nat.zero_le _, Nat.le_refl _, Nat.zero_le _, ((BytF.put (fun _ => by decide) _ _).put _ _).put _ _⟩
theorem cfB_zero (N : Nat) : cfB N (fun _ => 0) = Array.replicate N (bv 0) := by
 apply Array.ext_getElem?
 intro j
 by_cases h : j < N
 ·rw [cfB_get h, Array.getElem?_replicate, if_pos h]
 ·rw [Array.getElem?_eq_none (by rw [cfB_size]; omega), Array.getElem?_replicate, if_neg h]
theorem infoEnt : (Tryz.prog.info? 94).map (fun i => (i.zero, i.size, i.bytes)) = some (some (.agg #[.int .u64 0, .int .u64 0]), 2, 16) := by kernel_rfl
theorem ownA_ne {w : World} {B n g z : Nat} {e t : TypeId} {v : Value} {xs : List Value} {cs : Array Value} (h : w.ownsRow B e z v n xs) (hr : Row w g t cs) (hne : e ≠ t) : ∀ q, v.ownBlock = some q -> q ≠ g := by
 rcases h.2 with ⟨rfl, _⟩ | ⟨g', cap, cur, rfl, _, hh, _⟩
 ·intro q h; cases h
 ·intro q he e2
  have : g' = q := by injection he
  subst this
  subst e2
  have hr' : w.heap[g']? = some (.cells cs t (0, 0)) := hr
  rw [hr'] at hh
  injection hh with hh
  injection hh with _ ht
  exact hne ht.symm
theorem own_but {w w' : World} {B n z : Nat} {e : TypeId} {v : Value} {xs : List Value} {fp : Nat -> Prop} (h : w.ownsRow B e z v n xs) (hb : But w w' fp) (hne : ∀ q, v.ownBlock = some q -> ¬ fp q) : w'.ownsRow B e z v n xs := by
 obtain ⟨h1, h2⟩ := h
 refine ⟨h1, ?_⟩
 rcases h2 with h3 | ⟨g, cap, cur, rfl, hg, hh, r⟩
 ·exact .inl h3
 ·exact .inr ⟨g, cap, cur, rfl, hg, (hb.block g (Array.getElem?_eq_some_iff.1 hh).1 (hne g rfl)).trans hh, r⟩
theorem ent_cells {w : World} {B n : Nat} {e : TypeId} {v : Value} {l : List (Int × Int)} (h : w.ownsRow B e 2 v n (flatE l)) (hn : l.length = n) (h0 : 0 < n) : ∃ g cap, v = .slice (some ⟨g, 0, none⟩) n cap /\ n <= cap /\ B <= g /\ ∀ k, k < n -> w.cell? ⟨g, k * 2, none⟩ = some (.int .u64 (l.getD k (0, 0)).1) /\ w.cell? ⟨g, k * 2 + 1, none⟩ = some (.int .u64 (l.getD k (0, 0)).2) := by
 rcases h.2 with ⟨rfl, h2⟩ | ⟨g, cap, cur, rfl, hb, hh, hc, _⟩
 ·omega
 ·refine ⟨g, cap, rfl, hc, hb, fun k hk => ?_⟩
  obtain ⟨f1, f2⟩ := flatE_at l k (l.getD k (0, 0)) (by rw [List.getD_eq_getElem?_getD, List.getElem?_eq_getElem (by omega)]; rfl)
  have c1 := h.cells (g := g) rfl _ _ f1
  have c2 := h.cells (g := g) rfl _ _ f2
  rw [Addr.add_lit, Nat.zero_add] at c1 c2
  exact ⟨c1, c2⟩
theorem flatE_snocB (l : List (Int × Int)) (a b : Int) : flatE l ++ [.int .u64 a, .int .u64 b] = flatE (l ++ [(a, b)]) := by simp [flatE, uw]
theorem r14Value_any (n : Nat) (hn : n < 18446744073709551616) (w : World) : Calls Tryz.prog 48 #[.int .u64 (n : Int)] w fun e w' => e = .returned (.string (numS n)) /\ Below w.heap.size w w' := by
 have HN := Lib.hid (r8Num_any n hn w)
 obtain ⟨S, hS⟩ : ∃ S, S = numS n := ⟨_, rfl⟩
 rw [<- hS] at HN ⊢
 clear hS
 go_enter Tryz.func48, Tryz.ntmps48
 go_wp2_with fail
 refine HN.out.mono ?_
 rintro e w1 ⟨rfl, hb⟩
 have HB := Lib.hid hb
 clear hb
 go_wp2
 go_ret
 exact ⟨rfl, HB.out⟩
def bA (n : Nat) (ks : List Nat) : Ar := bK (b1 n) ks ks.length
def bT (n : Nat) (ks : List Nat) : Nat := (bA n ks).newNode.1
def bN (n : Nat) (ks : List Nat) : Nd := mkN (leaf0 (bT n ks : Int)) (bE (b1 n) ks ks.length) ks.length
def bZ (n : Nat) (ks : List Nat) : Ar := { (bA n ks).newNode.2 with f := putF (layF (bA n ks).newNode.2.f (bT n ks) (bN n ks)) 16 (bT n ks) }
def BuildP (w : World) (n : Nat) (ks : List Nat) (e : Ending) (w' : World) : Prop :=
 ∃ g gb, e = .returned (.pointer (some ⟨g, 0, none⟩)) /\ w.heap.size <= g /\ w.heap.size <= gb /\ Below w.heap.size w w' /\
  ∃ gl cl gr cr, ArAt w' g gb (.slice (some ⟨gl, 0, none⟩) 1 cl) (bZ n ks) /\ w'.cell? ⟨gl, 0, none⟩ = some (.slice (some ⟨gr, 0, none⟩) 1 cr) /\ (∀ j u, (atV (bT n ks) (bN n ks))[j]? = some u -> w'.cell? ⟨gr, j, none⟩ = some u) /\ w.heap.size <= gl /\ w.heap.size <= gr
theorem build_few {w : World} {n per gk cap : Nat} {lag : Int} {ks : List Nat} (hK : ∀ k, k < ks.length -> w.cell? ⟨gk, k, none⟩ = some (.int .u64 ((ks.getD k 0 : Nat) : Int))) (hk : ∀ k, ks.getD k 0 < 18446744073709551616) (h0 : 0 < ks.length) (hm : ks.length <= per) (hp : per <= 8) (hn : n <= 16)
  (hr : ∀ k, k < ks.length -> (bK (b1 n) ks k).newValue.1 ≠ 0) (ht : bT n ks ≠ 0) (hw : WordsOk (bN n ks)) :
  Calls Tryz.prog 18 #[.int .i64 (n : Int), .slice (some ⟨gk, 0, none⟩) ks.length cap, .int .i64 (per : Int), .int .i64 lag] w (BuildP w n ks) := by
 have mixed : Tryz.prog.follows .mixedOrders = true := by kernel_rfl
 obtain ⟨m, hmm⟩ : ∃ m, m = ks.length := ⟨_, rfl⟩
 obtain ⟨N, hN⟩ : ∃ N, N = 1024 * (n + 1) := ⟨_, rfl⟩
 have hNI : (1024 : Int) * ((n : Int) + 1) = (N : Int) := by omega
 have hNB : N <= 17408 := by omega
 have hmk := makeB N (by omega)
 rw [<- hmm] at hK h0 hm hr ⊢
 have hm8 : m <= 8 := by omega
 have HK := Lib.hid hK
 have HKL := Lib.hid hk
 have HRM := Lib.hid hr
 have HT := Lib.hid ht
 have HW := Lib.hid hw
 have HMM := Lib.hid hmm
 have HNN := Lib.hid hN
 have B1 := Lib.hid (b1_ok (n := n) (by omega))
 have hgk : gk < w.heap.size := w.block_lt_of_cell? _ (HK.out 0 h0)
 clear hK hk hr ht hw hmm hN
 go_enter Tryz.func18, Tryz.ntmps18
 go_upto_region 2 with (fail)
 obtain ⟨W1, hW1⟩ : ∃ W1, W1 = (w.alloc (.cells (Array.replicate N (bv 0)) 5)).alloc (.cells #[.slice (some ⟨w.heap.size, 0, none⟩) N N, .int .i64 (n : Int), .int .i64 0, .int .i64 0, .int .i64 0, .int .i64 0, .int .i64 0, .slice none 0 0] 45) := ⟨_, rfl⟩
 rw [<- hW1]
 obtain ⟨gb, hgb⟩ : ∃ gb, gb = w.heap.size := ⟨_, rfl⟩
 obtain ⟨g, hg⟩ : ∃ g, g = w.heap.size + 1 := ⟨_, rfl⟩
 have hA1 : ArAt W1 g gb (.slice none 0 0) (b0 n) := by
  refine ⟨?_, ?_⟩
  ·have := Row.new (w.alloc (.cells (Array.replicate N (bv 0)) 5)) 45 #[.slice (some ⟨w.heap.size, 0, none⟩) N N, .int .i64 (n : Int), .int .i64 0, .int .i64 0, .int .i64 0, .int .i64 0, .int .i64 0, .slice none 0 0]
   rw [<- hW1, World.size_alloc, <- hg, <- hgb, HNN.out] at this
   exact this
  ·have := (Row.new w 5 (Array.replicate N (bv 0))).alloc (.cells #[.slice (some ⟨w.heap.size, 0, none⟩) N N, .int .i64 (n : Int), .int .i64 0, .int .i64 0, .int .i64 0, .int .i64 0, .int .i64 0, .slice none 0 0] 45)
   rw [<- hW1, <- hgb, <- cfB_zero, HNN.out] at this
   exact this
 have hB1 : Below w.heap.size w W1 := by rw [hW1]; exact Below.and (alloc_below w _) (alloc_below _ _)
 have HA1 := Lib.hid hA1
 have HB1 := Lib.hid hB1
 have HGE := Lib.hid (show w.heap.size <= g /\ w.heap.size <= gb from by omega)
 rw [<- hg, <- hgb]
 have HP1 := Lib.hid (show Calls Tryz.prog 46 #[.pointer (some ⟨g, 0, none⟩), .int .i64 0, .int .u64 5929342154728227142] W1 _ from arPut_any (a := 0) (n := 5929342154728227142) hA1 (by show n <= 64; omega) (by show 0 + 8 <= 1024 * (n + 1); omega) (by decide))
 clear hA1 hB1 hg hgb hW1 hmk
 go_wp2_with fail
 refine HP1.out.mono ?_
 rintro e w2 ⟨rfl, h2, hb2⟩
 have c2 : w2.cell? ⟨g, 0, none⟩ = some (.slice (some ⟨gb, 0, none⟩) N N) := by rw [HNN.out]; exact h2.row.cell 0
 have HP2 := Lib.hid (show Calls Tryz.prog 46 #[.pointer (some ⟨g, 0, none⟩), .int .i64 8, .int .u64 (N : Int)] w2 _ from arPut_any (a := 8) (n := N) h2 (by show n <= 64; omega) (by show 8 + 8 <= 1024 * (n + 1); omega) (by omega))
 have HB2 := Lib.hid hb2
 clear h2 hb2 HP1
 go_wp2_with fail
 refine HP2.out.mono ?_
 rintro e w3 ⟨rfl, h3, hb3⟩
 have c3 : w3.cell? ⟨g, 0, none⟩ = some (.slice (some ⟨gb, 0, none⟩) N N) := by rw [HNN.out]; exact h3.row.cell 0
 obtain ⟨R, hR⟩ : ∃ R, R = 18446744073709551615 - N := ⟨_, rfl⟩
 have hRI : (18446744073709551615 : Int) - (N : Int) = (R : Int) := by omega
 have hRw : IntKind.u64.wrap ((18446744073709551615 : Int) - (N : Int)) = (R : Int) := by rw [hRI]; show (R : Int) % 18446744073709551616 = _; omega
 have HP3 := Lib.hid (show Calls Tryz.prog 46 #[.pointer (some ⟨g, 0, none⟩), .int .i64 24, .int .u64 (R : Int)] w3 _ from arPut_any (a := 24) (n := R) h3 (by show n <= 64; omega) (by show 24 + 8 <= 1024 * (n + 1); omega) (by omega))
 have HB3 := Lib.hid hb3
 have HR := Lib.hid hR
 clear h3 hb3 HP2 hR c2
 go_wp2_with fail
 refine HP3.out.mono ?_
 rintro e w4 ⟨rfl, h4, hb4⟩
 have HA4 := Lib.hid (show ArAt w4 g gb (.slice none 0 0) (b1 n) from by
  have e1 := HR.out
  rw [HNN.out] at e1
  rw [e1, HNN.out] at h4
  exact h4)
 have HB4 := Lib.hid (show Below w.heap.size w w4 from HB1.out.trans ((((HB2.out.trans HB3.out fun q hq => .inl hq).trans hb4 fun q hq => .inl hq).below HB1.out.size fun q hq => hq.elim (fun e => by rw [e]; exact HGE.out.1) (fun e => by rw [e]; exact HGE.out.2))))
 clear h4 hb4 HP3 c3 hRI hRw HA1 HB1 HB2 HB3
 go_upto_region 7 with (fail)
 have hgk2 := hgk
 obtain ⟨i0, hi, hz0, hz1, hz2⟩ := info_parts infoEnt
 go_loopw [10, 11] (fun V i wr => ∃ (VV : Value) (k : Nat), VV = V /\ k <= m /\ i = .int .i64 (k : Int) /\ wr.ownsRow w.heap.size 94 2 V k (flatE (bE (b1 n) ks k)) /\ ArAt wr g gb (.slice none 0 0) (bK (b1 n) ks k) /\ Below w.heap.size w wr) (fun _ i _ => m - (intOf i).toNat)
 case atStart => exact ⟨_, 0, rfl, Nat.zero_le _, rfl, World.ownsRow_nil _ _ _ _, HA4.out, HB4.out⟩
 case round =>
  rename World => wr
  obtain ⟨V, k, hVV, hk, rfl, ho, ha, hb⟩ := hrel
  subst hVV
  have HO := Lib.hid ho
  have HA := Lib.hid ha
  have HB := Lib.hid hb
  have hsz := hb.size
  clear HA4 HB4
  by_cases hlt : k < m
  ·have ck := (hb.cell (p := ⟨gk, k, none⟩) hgk2).trans (HK.out k hlt)
   obtain ⟨key, hkey⟩ : ∃ key, key = ks.getD k 0 := ⟨_, rfl⟩
   have hkl : key < 18446744073709551616 := by rw [hkey]; exact HKL.out k
   have hAk := bK_ok B1.out ks k
   have hvo := Ar.newValue_ok hAk.1
   have hnz := HRM.out k hlt
   have HSK := Lib.hid (show bK (b1 n) ks (k + 1) = (bK (b1 n) ks k).val key by rw [hkey]; rfl)
   have HSE := Lib.hid (show bE (b1 n) ks (k + 1) = bE (b1 n) ks k ++ [((key : Int), (((bK (b1 n) ks k).newValue.1 : Nat) : Int))] by rw [hkey]; rfl)
   have HNV := Lib.hid (arNewValue_any ha hAk.1)
   have HVL := Lib.hid (show (bK (b1 n) ks k).val key = { (bK (b1 n) ks k).newValue.2 with f := strK (putF (bK (b1 n) ks k).newValue.2.f (bK (b1 n) ks k).newValue.1 (numS key).size) ((bK (b1 n) ks k).newValue.1 + 8) (numS key) (numS key).size } from rfl)
   rw [<- hkey] at ck
   obtain ⟨T, hT⟩ : ∃ T, T = (bK (b1 n) ks k).newValue.1 := ⟨_, rfl⟩
   obtain ⟨A1, hA1⟩ : ∃ A1, A1 = (bK (b1 n) ks k).newValue.2 := ⟨_, rfl⟩
   obtain ⟨S, hS⟩ : ∃ S, S = numS key := ⟨_, rfl⟩
   have HNUM := Lib.hid fun W => r14Value_any key hkl W
   have hSl : S.size <= 20 := by rw [hS]; exact numS_len hkl
   rw [<- hT] at hvo hnz HSE HNV HVL
   rw [<- hA1] at hvo HNV HVL
   rw [<- hS] at HVL HNUM
   have hT3 := hvo.2.2 hnz
   have hA1n : A1.n <= 64 := hvo.1.n
   have hA1N : A1.n = n := hvo.2.1.trans hAk.2
   have hTN : T + 64 <= A1.N := by have h5 := hT3.2.1; unfold Ar.N at h5 ⊢; rw [hvo.2.1]; exact h5
   have hTN2 : T + 64 <= N := by have := HNN.out; unfold Ar.N at hTN; rw [hA1N] at hTN; omega
   have dT : (T == 0) = false := by simpa using hnz
   have dT2 : ((T : Int) == 0) = false := by rw [Bool.eq_false_iff]; intro q; have := beq_iff_eq.1 q; omega
   have HNE := Lib.hid (show ∀ q, V.ownBlock = some q -> ¬ (q = g \/ q = gb) from fun q hq h => h.elim (ownA_ne ho ha.row (by decide) q hq) (ownA_ne ho ha.byt (by decide) q hq))
   have hAN : A1.N = N := by unfold Ar.N; rw [hA1N]; exact HNN.out.symm
   have HPUT := Lib.hid fun (W : World) (hW : ArAt W g gb (.slice none 0 0) A1) => arPut_any (a := T) (n := S.size) hW hA1n (by omega) (by omega)
   have CK := Lib.hid ck
   clear ho ha hb hkey hAk hvo hnz hT hA1 hS hT3 hTN HRM HKL
   go_wp2_with fail
   refine HNV.out.mono ?_
   rintro e w5 ⟨rfl, h5, hb5⟩
   have HA5 := Lib.hid h5
   have HB5 := Lib.hid hb5
   have ck5 : w5.cell? ⟨gk, k, none⟩ = some (.int .u64 (key : Int)) := hb5.cell ck (by have := HGE.out; rintro (e | e) <;> (simp only at e; omega))
   clear h5 hb5 HNV ck
   go_wp2_with fail
   refine (HNUM.out _).mono ?_
   rintro e w6 ⟨rfl, h6⟩
   have HP6 := Lib.hid (HPUT.out w6 (HA5.out.below h6))
   have HB6 := Lib.hid h6
   clear h6 HNUM HPUT
   go_wp2_with fail
   refine HP6.out.mono ?_
   rintro e w7 ⟨rfl, h7, hb7⟩
   have HA7 := Lib.hid h7
   have HB7 := Lib.hid (show But wr w7 (fun q => q = g \/ q = gb) from (HB5.out.trans (But.of_below HB6.out _) fun q hq => .inl hq).trans hb7 fun q hq => .inl hq)
   clear h7 hb7 HP6
   go_wp2_with fail
   go_loopw [14] (fun i wx => ∃ j : Nat, j <= S.size /\ i = .int .i64 (j : Int) /\ ArAt wx g gb (.slice none 0 0) { A1 with f := strK (putF A1.f T S.size) (T + 8) S j } /\ But wr wx (fun q => q = g \/ q = gb)) (fun i _ => S.size - (intOf i).toNat)
   case atStart => exact ⟨0, Nat.zero_le _, rfl, by rw [strK_zero]; exact HA7.out, HB7.out⟩
   case round =>
    rename World => wx
    obtain ⟨j, hj, rfl, hax, hbx⟩ := hrel
    have HAX := Lib.hid hax
    have HBX := Lib.hid hbx
    clear HA7 HB7
    by_cases hjl : j < S.size
    ·have x0 : wx.cell? ⟨g, 0, none⟩ = some (.slice (some ⟨gb, 0, none⟩) N N) := by rw [<- hAN]; exact hax.row.cell 0
     have xb := hax.byt.cell (T + 8 + j)
     rw [cfB_get (by show T + 8 + j < A1.N; omega)] at xb
     have xf := hax.byt.free (T + 8 + j)
     have hch := chr_get S hjl
     have hS20 : j <= 20 := by omega
     have hT18 : T <= 17408 := by omega
     have y1 : IntKind.i64.wrap ((T : Int) + 8) = (T : Int) + 8 := by rw [IntKind.wrap_i64]; omega
     have y2 : IntKind.i64.wrap ((T : Int) + 8 + (j : Int)) = (T : Int) + 8 + (j : Int) := by rw [IntKind.wrap_i64]; omega
     have y3 : ((T : Int) + 8 + (j : Int)).toNat = T + 8 + j := by omega
     have y4 : 0 <= (T : Int) + 8 + (j : Int) := by omega
     have y5 : (T : Int) + 8 + (j : Int) < (N : Int) := by omega
     unfold bv at xb
     clear hax hbx ck5
     go_wp2_with fail
     go_region
     go_wp2
     refine ⟨⟨j + 1, by omega, by go_num, ?_, (HBX.out.set (p := ⟨gb, T + 8 + j, none⟩) (.inr rfl) _).drew⟩, by simp [intOf]; omega⟩
     refine ArAt.below ?_ (drew_below _)
     refine ⟨HAX.out.row.other (p := ⟨gb, T + 8 + j, none⟩) HAX.out.ne _, ?_⟩
     have h := HAX.out.byt.set (T + 8 + j) (bv (chr S j))
     rw [cfB_set, strK_succ] at h
     exact h
    ·obtain rfl : j = S.size := by omega
     have hgw := HGE.out
     have ckx : wx.cell? ⟨gk, k, none⟩ = some (.int .u64 (key : Int)) := by
      have c5 := hbx.cell (p := ⟨gk, k, none⟩) (u := .int .u64 (key : Int)) CK.out (by rintro (e | e) <;> (simp only at e; omega))
      exact c5
     have HO8 := Lib.hid (own_but HO.out hbx HNE.out)
     have hszx := hbx.size
     have hgx := hax.row.lt
     have hgbx := hax.byt.lt
     clear hax hbx ck5 hjl
     go_wp2_with (at_builtin; refine wpList_append_own _ rfl _ _ 89 rfl w.heap.size 94 i0 (.agg #[.int .u64 0, .int .u64 0]) 2 16 Tryz.underlying89 hi hz0 hz1 hz2 rfl (by decide) _ k _ rfl (HO8.out.alloc _) ⟨wx.heap.size, 0, none⟩ 1 1 [.int .u64 (key : Int), .int .u64 (T : Int)] rfl rfl ?q1 ?q2 ?q3 ?q4 ?q5 ?_)
     case q1 =>
      have hr := Row.new wx 94 #[.int .u64 (key : Int), .int .u64 (T : Int)]
      intro j u hj
      rw [Addr.add_lit, hr.cell, Nat.zero_add]
      simpa using hj
     case q2 => simp [Value.oneCell']
     case q3 => unfold maxLen; omega
     case q4 => omega
     case q5 => simp; omega
     intro v' w9 hown hgrow hnil
     have HO9 := Lib.hid hown
     have ha9 : ArAt w9 g gb (.slice none 0 0) { A1 with f := strK (putF A1.f T S.size) (T + 8) S S.size } :=
      ⟨(HAX.out.row.alloc _).grown hgrow (fun e => HNE.out g e.symm (.inl rfl)), (HAX.out.byt.alloc _).grown hgrow (fun e => HNE.out gb e.symm (.inr rfl))⟩
     have HA9 := Lib.hid ha9
     have HB9 := Lib.hid (show Below w.heap.size w w9 from by
      have h1 : Below w.heap.size w wx := HB.out.trans (HBX.out.below HB.out.size fun q hq => hq.elim (fun e => by rw [e]; exact HGE.out.1) (fun e => by rw [e]; exact HGE.out.2))
      exact (h1.alloc (Nat.le_trans HB.out.size hszx) _).grown hgrow (by simp; omega) (fun j hj => (ownS_from HO8.out j hj).1))
     clear hown hgrow hnil ha9
     go_wp2_with fail
     refine ⟨⟨_, k + 1, rfl, by omega, by go_num, ?_, ?_, HB9.out⟩, by simp [intOf]; omega⟩
     ·rw [HSE.out, <- flatE_snocB]
      exact HO9.out
     ·rw [HSK.out, HVL.out]
      exact HA9.out
  ·obtain rfl : k = m := by omega
   obtain ⟨ge, ce, hV, hce, hge, hcs⟩ := ent_cells ho (bE_len _ _ _) h0
   have hAk := bK_ok B1.out ks k
   have hgg : ge ≠ g := ownA_ne ho ha.row (by decide) ge (by rw [hV]; rfl)
   have hggb : ge ≠ gb := ownA_ne ho ha.byt (by decide) ge (by rw [hV]; rfl)
   have ebA : bK (b1 n) ks k = bA n ks := by rw [HMM.out]; rfl
   have ebN : mkN (leaf0 (bT n ks : Int)) (bE (b1 n) ks k) k = bN n ks := by rw [HMM.out]; rfl
   have hlv := arLevel_few (per := per) ha hAk.1 hcs ⟨hgg, hggb⟩ h0 hm hp hce (by rw [ebA]; exact HT.out) (by
    have := HW.out
    rw [<- ebN] at this
    rw [ebA]
    exact this)
   have hok := Ar.newNode_ok hAk.1
   rw [ebA] at hlv hok
   have htn := hok.2.2 HT.out
   change Calls _ _ _ _ (fun e w' => e = _ /\ LvlP wr g gb _ (bT n ks) (mkN (leaf0 (bT n ks : Int)) (bE (b1 n) ks k) k) w') at hlv
   have hlv2 := hlv
   rw [show (mkN (leaf0 ((bA n ks).newNode.1 : Int)) (bE (b1 n) ks k) k) = bN n ks from ebN, ebN] at hlv2
   have HLV := Lib.hid hlv2
   have HAK := Lib.hid (show (bA n ks).newNode.2.n <= 64 from hok.1.n)
   obtain ⟨T, hT⟩ : ∃ T, T = bT n ks := ⟨_, rfl⟩
   have hTb : T <= 17408 := by
    have h5 := htn.2.1
    have e5 : (bA n ks).n = n := by rw [<- ebA]; exact hAk.2
    unfold Ar.N at h5
    rw [e5] at h5
    rw [hT]
    unfold bT
    omega
   have HBZ := Lib.hid (show bZ n ks = { (bA n ks).newNode.2 with f := putF (layF (bA n ks).newNode.2.f (bA n ks).newNode.1 (bN n ks)) 16 T } by rw [hT]; rfl)
   rw [<- hT] at HLV
   have HTT := Lib.hid hT
   have hAn : 16 + 8 <= (bA n ks).newNode.2.N := by unfold Ar.N; omega
   clear ho ha hb hlv hlv2 hok htn hcs hce hge hgg hggb hAk ebA ebN hT hlt
   subst hV
   go_wp2_with fail
   go_loopw [10, 15] (fun V i wy => V = .slice (some ⟨ge, 0, none⟩) k ce /\ i = .int .i64 0 /\ wy = wr) (fun _ _ _ => 0)
   case atStart => exact ⟨rfl, rfl, rfl⟩
   case round =>
   rename World => wy
   obtain ⟨rfl, rfl, hwy⟩ := hrel
   subst hwy
   go_wp2_with fail
   refine HLV.out.mono ?_
   rintro e w10 ⟨rfl, gl, cl, gr, cr, hA10, hc10, hr10, hgl, hgr, hb10⟩
   have x7 : w10.cell? ⟨g, 7, none⟩ = some (.slice (some ⟨gl, 0, none⟩) 1 cl) := hA10.row.cell 7
   have xr : w10.cell? ⟨gr, 0, none⟩ = some (.int .u64 (T : Int)) := hr10 0 _ rfl
   have HPF := Lib.hid fun q => (show Calls Tryz.prog 46 #[.pointer (some ⟨g, 0, none⟩), .int .i64 16, .int .u64 (T : Int)] (w10.drewN q) _ from arPut_any (a := 16) (n := T) (hA10.below (drewN_below w10 q)) HAK.out hAn (by omega))
   have HC10 := Lib.hid hc10
   have HR10 := Lib.hid hr10
   have HBB := Lib.hid hb10
   have HA10 := Lib.hid hA10
   have HGL := Lib.hid (And.intro hgl hgr)
   clear hA10 hr10 hgl hgr hb10 HLV
   go_upto_region 31 with (fail)
   go_quiet (fail)
   go_wp2_with fail
   refine (HPF.out nq).mono ?_
   rintro e w11 ⟨rfl, h11, hb11⟩
   have H11 := Lib.hid h11
   have HB11 := Lib.hid hb11
   clear h11 hb11 HPF
   go_wp2_with fail
   go_ret
   have hg11 : ∀ W, ArT (w10.drewN nq) g gb (.slice (some ⟨gl, 0, none⟩) 1 cl) { (bA n ks).newNode.2 with f := putF (layF (bA n ks).newNode.2.f (bA n ks).newNode.1 (bN n ks)) 16 T } W -> ArAt W g gb (.slice (some ⟨gl, 0, none⟩) 1 cl) (bZ n ks) := fun W h => by rw [HBZ.out]; exact h.1
   have hrz := HA.out.row.lt
   have hbz := HA.out.byt.lt
   have hbt : But wy w11 (fun q => q = g \/ q = gb) := (HBB.out.trans (But.of_below (drewN_below w10 nq) _) fun q hq => .inl hq).trans HB11.out fun q hq => .inl hq
   have hgl := HGL.out
   have hsw := HB.out.size
   refine ⟨g, gb, rfl, HGE.out.1, HGE.out.2, HB.out.trans (hbt.below HB.out.size fun q hq => hq.elim (fun e => by rw [e]; exact HGE.out.1) (fun e => by rw [e]; exact HGE.out.2)), gl, cl, gr, cr, hg11 _ ⟨H11.out, HB11.out⟩, ?_, fun j u hu => ?_, by omega, by omega⟩
   ·exact HB11.out.cell (p := ⟨gl, 0, none⟩) ((drewN_below w10 nq).cell (w10.block_lt_of_cell? _ HC10.out) |>.trans HC10.out) (by rintro (e | e) <;> (simp only at e; omega))
   ·have hu2 := HR10.out j u (by rw [HTT.out]; exact hu)
    exact HB11.out.cell (p := ⟨gr, j, none⟩) ((drewN_below w10 nq).cell (w10.block_lt_of_cell? _ hu2) |>.trans hu2) (by rintro (e | e) <;> (simp only at e; omega))
end Go.Proofs.YtkbklooocdfcfaaGreatDoor
namespace Go.Proofs.YtkbklooocdfcfaaGreatDoor
open Go.RowKit
attribute [local go_sem] Oper.semAt_some
theorem build_none {w : World} {n per : Nat} {lag : Int} (h0 : 0 < per) (hp : per <= 8) (hn : n <= 16) (ht : bT n [] ≠ 0) (hw : WordsOk (bN n [])) :
  Calls Tryz.prog 18 #[.int .i64 (n : Int), .slice none 0 0, .int .i64 (per : Int), .int .i64 lag] w (BuildP w n []) := by
 have mixed : Tryz.prog.follows .mixedOrders = true := by kernel_rfl
 obtain ⟨N, hN⟩ : ∃ N, N = 1024 * (n + 1) := ⟨_, rfl⟩
 have hNI : (1024 : Int) * ((n : Int) + 1) = (N : Int) := by omega
 have hNB : N <= 17408 := by omega
 have hmk := makeB N (by omega)
 have HT := Lib.hid ht
 have HW := Lib.hid hw
 have HNN := Lib.hid hN
 have B1 := Lib.hid (b1_ok (n := n) (by omega))
 clear ht hw hN
 go_enter Tryz.func18, Tryz.ntmps18
 go_upto_region 2 with (fail)
 obtain ⟨W1, hW1⟩ : ∃ W1, W1 = (w.alloc (.cells (Array.replicate N (bv 0)) 5)).alloc (.cells #[.slice (some ⟨w.heap.size, 0, none⟩) N N, .int .i64 (n : Int), .int .i64 0, .int .i64 0, .int .i64 0, .int .i64 0, .int .i64 0, .slice none 0 0] 45) := ⟨_, rfl⟩
 rw [<- hW1]
 obtain ⟨gb, hgb⟩ : ∃ gb, gb = w.heap.size := ⟨_, rfl⟩
 obtain ⟨g, hg⟩ : ∃ g, g = w.heap.size + 1 := ⟨_, rfl⟩
 have hA1 : ArAt W1 g gb (.slice none 0 0) (b0 n) := by
  refine ⟨?_, ?_⟩
  ·have := Row.new (w.alloc (.cells (Array.replicate N (bv 0)) 5)) 45 #[.slice (some ⟨w.heap.size, 0, none⟩) N N, .int .i64 (n : Int), .int .i64 0, .int .i64 0, .int .i64 0, .int .i64 0, .int .i64 0, .slice none 0 0]
   rw [<- hW1, World.size_alloc, <- hg, <- hgb, HNN.out] at this
   exact this
  ·have := (Row.new w 5 (Array.replicate N (bv 0))).alloc (.cells #[.slice (some ⟨w.heap.size, 0, none⟩) N N, .int .i64 (n : Int), .int .i64 0, .int .i64 0, .int .i64 0, .int .i64 0, .int .i64 0, .slice none 0 0] 45)
   rw [<- hW1, <- hgb, <- cfB_zero, HNN.out] at this
   exact this
 have hB1 : Below w.heap.size w W1 := by rw [hW1]; exact Below.and (alloc_below w _) (alloc_below _ _)
 have HA1 := Lib.hid hA1
 have HB1 := Lib.hid hB1
 have HGE := Lib.hid (show w.heap.size <= g /\ w.heap.size <= gb from by omega)
 rw [<- hg, <- hgb]
 have HP1 := Lib.hid (show Calls Tryz.prog 46 #[.pointer (some ⟨g, 0, none⟩), .int .i64 0, .int .u64 5929342154728227142] W1 _ from arPut_any (a := 0) (n := 5929342154728227142) hA1 (by show n <= 64; omega) (by show 0 + 8 <= 1024 * (n + 1); omega) (by decide))
 clear hA1 hB1 hg hgb hW1 hmk
 go_wp2_with fail
 refine HP1.out.mono ?_
 rintro e w2 ⟨rfl, h2, hb2⟩
 have c2 : w2.cell? ⟨g, 0, none⟩ = some (.slice (some ⟨gb, 0, none⟩) N N) := by rw [HNN.out]; exact h2.row.cell 0
 have HP2 := Lib.hid (show Calls Tryz.prog 46 #[.pointer (some ⟨g, 0, none⟩), .int .i64 8, .int .u64 (N : Int)] w2 _ from arPut_any (a := 8) (n := N) h2 (by show n <= 64; omega) (by show 8 + 8 <= 1024 * (n + 1); omega) (by omega))
 have HB2 := Lib.hid hb2
 clear h2 hb2 HP1
 go_wp2_with fail
 refine HP2.out.mono ?_
 rintro e w3 ⟨rfl, h3, hb3⟩
 have c3 : w3.cell? ⟨g, 0, none⟩ = some (.slice (some ⟨gb, 0, none⟩) N N) := by rw [HNN.out]; exact h3.row.cell 0
 obtain ⟨R, hR⟩ : ∃ R, R = 18446744073709551615 - N := ⟨_, rfl⟩
 have hRI : (18446744073709551615 : Int) - (N : Int) = (R : Int) := by omega
 have hRw : IntKind.u64.wrap ((18446744073709551615 : Int) - (N : Int)) = (R : Int) := by rw [hRI]; show (R : Int) % 18446744073709551616 = _; omega
 have HP3 := Lib.hid (show Calls Tryz.prog 46 #[.pointer (some ⟨g, 0, none⟩), .int .i64 24, .int .u64 (R : Int)] w3 _ from arPut_any (a := 24) (n := R) h3 (by show n <= 64; omega) (by show 24 + 8 <= 1024 * (n + 1); omega) (by omega))
 have HB3 := Lib.hid hb3
 have HR := Lib.hid hR
 clear h3 hb3 HP2 hR c2
 go_wp2_with fail
 refine HP3.out.mono ?_
 rintro e w4 ⟨rfl, h4, hb4⟩
 have HA4 := Lib.hid (show ArAt w4 g gb (.slice none 0 0) (b1 n) from by
  have e1 := HR.out
  rw [HNN.out] at e1
  rw [e1, HNN.out] at h4
  exact h4)
 have HB4 := Lib.hid (show Below w.heap.size w w4 from HB1.out.trans ((((HB2.out.trans HB3.out fun q hq => .inl hq).trans hb4 fun q hq => .inl hq).below HB1.out.size fun q hq => hq.elim (fun e => by rw [e]; exact HGE.out.1) (fun e => by rw [e]; exact HGE.out.2))))
 clear h4 hb4 HP3 c3 hRI hRw HA1 HB1 HB2 HB3
 go_upto_region 7 with (fail)
 go_loopw [10, 11] (fun V i wr => V = .slice none 0 0 /\ i = .int .i64 0 /\ ArAt wr g gb (.slice none 0 0) (b1 n) /\ Below w.heap.size w wr) (fun _ i _ => 0)
 case atStart => exact ⟨rfl, rfl, HA4.out, HB4.out⟩
 case round =>
  rename World => wr
  obtain ⟨rfl, rfl, ha, hb⟩ := hrel
  have HA := Lib.hid ha
  have HB := Lib.hid hb
  have hsz := hb.size
  clear HA4 HB4
  ·skip
   have hlv := arLevel_none (per := per) ha B1.out h0 hp HT.out HW.out
   have hok := Ar.newNode_ok B1.out
   have htn := hok.2.2 HT.out
   change Calls _ _ _ _ (fun e w' => e = _ /\ LvlP wr g gb _ (bT n []) (bN n []) w') at hlv
   have hlv2 := hlv
   have HLV := Lib.hid hlv2
   have HAK := Lib.hid (show (bA n []).newNode.2.n <= 64 from hok.1.n)
   obtain ⟨T, hT⟩ : ∃ T, T = bT n [] := ⟨_, rfl⟩
   have hTb : T <= 17408 := by
    have h5 := htn.2.1
    have e5 : (bA n []).n = n := rfl
    change (b1 n).newNode.1 + 192 <= 1024 * (n + 1) at h5
    rw [hT]
    change (b1 n).newNode.1 <= 17408
    omega
   have HBZ := Lib.hid (show bZ n [] = { (bA n []).newNode.2 with f := putF (layF (bA n []).newNode.2.f (bA n []).newNode.1 (bN n [])) 16 T } by rw [hT]; rfl)
   rw [<- hT] at HLV
   have HTT := Lib.hid hT
   have hAn : 16 + 8 <= (bA n []).newNode.2.N := by unfold Ar.N; omega
   clear ha hb hlv hlv2 hok htn hT
   go_wp2_with fail
   go_loopw [10, 15] (fun V i wy => V = .slice none 0 0 /\ i = .int .i64 0 /\ wy = wr) (fun _ _ _ => 0)
   case atStart => exact ⟨rfl, rfl, rfl⟩
   case round =>
   rename World => wy
   obtain ⟨rfl, rfl, hwy⟩ := hrel
   subst hwy
   go_wp2_with fail
   refine HLV.out.mono ?_
   rintro e w10 ⟨rfl, gl, cl, gr, cr, hA10, hc10, hr10, hgl, hgr, hb10⟩
   have x7 : w10.cell? ⟨g, 7, none⟩ = some (.slice (some ⟨gl, 0, none⟩) 1 cl) := hA10.row.cell 7
   have xr : w10.cell? ⟨gr, 0, none⟩ = some (.int .u64 (T : Int)) := hr10 0 _ rfl
   have HPF := Lib.hid fun q => (show Calls Tryz.prog 46 #[.pointer (some ⟨g, 0, none⟩), .int .i64 16, .int .u64 (T : Int)] (w10.drewN q) _ from arPut_any (a := 16) (n := T) (hA10.below (drewN_below w10 q)) HAK.out hAn (by omega))
   have HC10 := Lib.hid hc10
   have HR10 := Lib.hid hr10
   have HBB := Lib.hid hb10
   have HA10 := Lib.hid hA10
   have HGL := Lib.hid (And.intro hgl hgr)
   clear hA10 hr10 hgl hgr hb10 HLV
   go_upto_region 31 with (fail)
   go_quiet (fail)
   go_wp2_with fail
   refine (HPF.out nq).mono ?_
   rintro e w11 ⟨rfl, h11, hb11⟩
   have H11 := Lib.hid h11
   have HB11 := Lib.hid hb11
   clear h11 hb11 HPF
   go_wp2_with fail
   go_ret
   have hg11 : ∀ W, ArT (w10.drewN nq) g gb (.slice (some ⟨gl, 0, none⟩) 1 cl) { (bA n []).newNode.2 with f := putF (layF (bA n []).newNode.2.f (bA n []).newNode.1 (bN n [])) 16 T } W -> ArAt W g gb (.slice (some ⟨gl, 0, none⟩) 1 cl) (bZ n []) := fun W h => by rw [HBZ.out]; exact h.1
   have hrz := HA.out.row.lt
   have hbz := HA.out.byt.lt
   have hbt : But wy w11 (fun q => q = g \/ q = gb) := (HBB.out.trans (But.of_below (drewN_below w10 nq) _) fun q hq => .inl hq).trans HB11.out fun q hq => .inl hq
   have hgl := HGL.out
   have hsw := HB.out.size
   refine ⟨g, gb, rfl, HGE.out.1, HGE.out.2, HB.out.trans (hbt.below HB.out.size fun q hq => hq.elim (fun e => by rw [e]; exact HGE.out.1) (fun e => by rw [e]; exact HGE.out.2)), gl, cl, gr, cr, hg11 _ ⟨H11.out, HB11.out⟩, ?_, fun j u hu => ?_, by omega, by omega⟩
   ·exact HB11.out.cell (p := ⟨gl, 0, none⟩) ((drewN_below w10 nq).cell (w10.block_lt_of_cell? _ HC10.out) |>.trans HC10.out) (by rintro (e | e) <;> (simp only at e; omega))
   ·have hu2 := HR10.out j u (by rw [HTT.out]; exact hu)
    exact HB11.out.cell (p := ⟨gr, j, none⟩) ((drewN_below w10 nq).cell (w10.block_lt_of_cell? _ hu2) |>.trans hu2) (by rintro (e | e) <;> (simp only at e; omega))
end Go.Proofs.YtkbklooocdfcfaaGreatDoor
