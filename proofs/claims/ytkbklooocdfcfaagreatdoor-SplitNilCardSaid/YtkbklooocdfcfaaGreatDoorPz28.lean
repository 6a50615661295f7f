/- Texts of this claim, packed: GTab, GeoA, GeoB, GeoC. -/
import Derived.Test.YtkbklooocdfcfaaGreatDoorPz01
import Derived.Lib.LaidTab
import Derived.Lib.SmallJoins
import Derived.Shelf.SlSortCmp.QuietGrown
set_option linter.unusedVariables false
set_option maxRecDepth 100000
set_option maxHeartbeats 6400000
namespace Go.Proofs.YtkbklooocdfcfaaGreatDoor
open Go.RowKit Go.Sort
def roomsA : Array Value := #[.int .i64 0, .int .i64 0, .int .i64 (-1), .int .i64 64, .int .i64 15, .int .i64 56, .int .i64 128, .int .i64 7, .int .i64 120, .int .i64 192, .int .i64 5, .int .i64 (-1)]
def Rms (w : World) : Prop := ∃ t, w.heap[0]? = some (.cells roomsA t (0, 0))
theorem Rms.below {w w' : World} (h : Rms w) (g : Below w.heap.size w w') : Rms w' := by
 obtain ⟨t, h⟩ := h
 exact ⟨t, (g.block _ (heap_lt h)).trans h⟩
theorem rooms_named : Tryz.prog.globalNamed "levee/geo.rooms" = some 0 := by kernel_rfl
theorem rooms_type : (Tryz.prog.globals[0]?).map (·.type) = some 240 := by kernel_rfl
theorem gcellsInt : Tryz.prog.cellsOf 3 = 1 := by kernel_rfl
theorem cellsRoom : Tryz.prog.cellsOf 214 = 3 := by kernel_rfl
theorem cellsRooms : Tryz.prog.cellsOf 240 = 12 := by kernel_rfl
section
variable {H : Type} {enc : TypeId × Value -> H} {w : World} {base : Nat} {sp : Nat -> Bool} {held : Bool} {fuel : Nat}
theorem room_cells {cs : List Value} {x y z : Int} {p : List MemPlace}
  (h : DataW.trod enc Tryz.prog w base sp held fuel 214 cs = some (.agg [.lit (.int .i64 x), .lit (.int .i64 y), .lit (.int .i64 z)], p)) : cs = [.int .i64 x, .int .i64 y, .int .i64 z] := by
 cases fuel with
 | zero => simp [DataW.trod] at h
 | succ fuel =>
  simp only [DataW.trod, Tryz.underlying214, cellsRoom, List.mapM_cons, List.mapM_nil, gcellsInt, Option.bind_eq_bind, Option.pure_def] at h
  split at h
  ·rename_i hl
   obtain ⟨xs, hm, hx⟩ := Option.map_eq_some_iff.1 h
   obtain ⟨u, hu1, hm⟩ := Option.bind_eq_some_iff.1 hm
   obtain ⟨l1, hl1, hm⟩ := Option.bind_eq_some_iff.1 hm
   obtain ⟨v, hv1, hl1⟩ := Option.bind_eq_some_iff.1 hl1
   obtain ⟨l2, hl2, hl1⟩ := Option.bind_eq_some_iff.1 hl1
   obtain ⟨t, ht1, hl2⟩ := Option.bind_eq_some_iff.1 hl2
   simp only [Option.bind_some, Option.some.injEq] at hm hl1 hl2
   subst hl2 hl1 hm
   obtain ⟨n1, c1, rfl, _⟩ := DataW.trod_int Tryz.underlying3 hu1
   obtain ⟨n2, c2, rfl, _⟩ := DataW.trod_int Tryz.underlying3 hv1
   obtain ⟨n3, c3, rfl, _⟩ := DataW.trod_int Tryz.underlying3 ht1
   simp at hx
   obtain ⟨⟨rfl, rfl, rfl⟩, _⟩ := hx
   match cs, hl with
   | [q1, q2, q3], _ =>
    simp at c1 c2 c3
    subst c1 c2 c3
    rfl
  ·cases h
theorem rooms_cells {cs : List Value} {p : List MemPlace}
  (h : DataW.trod enc Tryz.prog w base sp held fuel 240 cs = some (.agg [.agg [.lit (.int .i64 0), .lit (.int .i64 0), .lit (.int .i64 (-1))], .agg [.lit (.int .i64 64), .lit (.int .i64 15), .lit (.int .i64 56)], .agg [.lit (.int .i64 128), .lit (.int .i64 7), .lit (.int .i64 120)], .agg [.lit (.int .i64 192), .lit (.int .i64 5), .lit (.int .i64 (-1))]], p)) : cs = roomsA.toList := by
 cases fuel with
 | zero => simp [DataW.trod] at h
 | succ fuel =>
  simp only [DataW.trod, Tryz.underlying240, cellsRooms, cellsRoom, show List.range 4 = [0, 1, 2, 3] from rfl, List.mapM_cons, List.mapM_nil, Option.bind_eq_bind, Option.pure_def] at h
  split at h
  ·rename_i hl
   obtain ⟨xs, hm, hx⟩ := Option.map_eq_some_iff.1 h
   obtain ⟨u0, h0, hm⟩ := Option.bind_eq_some_iff.1 hm
   obtain ⟨l1, hl1, hm⟩ := Option.bind_eq_some_iff.1 hm
   obtain ⟨u1, h1, hl1⟩ := Option.bind_eq_some_iff.1 hl1
   obtain ⟨l2, hl2, hl1⟩ := Option.bind_eq_some_iff.1 hl1
   obtain ⟨u2, h2, hl2⟩ := Option.bind_eq_some_iff.1 hl2
   obtain ⟨l3, hl3, hl2⟩ := Option.bind_eq_some_iff.1 hl2
   obtain ⟨u3, h3, hl3⟩ := Option.bind_eq_some_iff.1 hl3
   simp only [Option.bind_some, Option.some.injEq] at hm hl1 hl2 hl3
   subst hl3 hl2 hl1 hm
   obtain ⟨u0a, u0b⟩ := u0
   obtain ⟨u1a, u1b⟩ := u1
   obtain ⟨u2a, u2b⟩ := u2
   obtain ⟨u3a, u3b⟩ := u3
   simp only [List.map_cons, List.map_nil, Prod.mk.injEq, DataW.agg.injEq, List.cons.injEq, and_true] at hx
   obtain ⟨⟨rfl, rfl, rfl, rfl⟩, _⟩ := hx
   have e0 := room_cells h0
   have e1 := room_cells h1
   have e2 := room_cells h2
   have e3 := room_cells h3
   match cs, hl with
   | [q1, q2, q3, q4, q5, q6, q7, q8, q9, q10, q11, q12], _ =>
    simp at e0 e1 e2 e3
    obtain ⟨rfl, rfl, rfl⟩ := e0
    obtain ⟨rfl, rfl, rfl⟩ := e1
    obtain ⟨rfl, rfl, rfl⟩ := e2
    obtain ⟨rfl, rfl, rfl⟩ := e3
    rfl
  ·cases h
end
theorem rms_of_head {rest : List (String × DataW Unit)} {w : World} (h : laidMet Tryz.prog (("levee/geo.rooms", Rows.laid_levee_geo_rooms) :: rest) w) : Rms w := by
 obtain ⟨ps, ⟨g, t, cs, fuel, p, q, hg, ht, hvar, hd, hr, rfl⟩, hn, hall⟩ := h
 obtain rfl := Option.some.inj (rooms_named.symm.trans hg)
 obtain rfl := Option.some.inj (rooms_type.symm.trans ht)
 have e := rooms_cells hd
 obtain rfl : cs = roomsA := by cases cs; simp only [Array.toList] at e; subst e; rfl
 obtain ⟨⟨c, t', hc⟩, _⟩ := hall 0 0 (by
  refine List.mem_append.2 (Or.inl (List.mem_append.2 (Or.inl ?_)))
  exact List.mem_of_getElem? (i := 0) (by kernel_rfl))
 refine ⟨t', ?_⟩
 simp only [World.var?, rooms_named, Option.bind_some, hc, Option.some.injEq] at hvar
 rw [hc, hvar]
theorem gret_int {k : IntKind} {a b : Int} (h : a = b) : Ending.returned (.int k a) = .returned (.int k b) := by rw [h]
theorem within_at {n lo hi : Int} {b : Bool} (hb : inB n lo hi = b) (w : World) : Calls Tryz.prog 124 #[.int .i64 n, .int .i64 lo, .int .i64 hi] w fun e w' => e = .returned (.bool b) /\ w = w' := by
 subst hb
 by_cases h1 : lo <= n
 ·by_cases h2 : n <= hi
  ·rw [inB_yes ⟨h1, h2⟩]
   go_enter Tryz.func124, Tryz.ntmps124
   go_wp2
   go_ret
   exact ⟨rfl, rfl⟩
  ·rw [inB_no (by omega)]
   have h2' : hi < n := by omega
   go_enter Tryz.func124, Tryz.ntmps124
   go_wp2
   go_ret
   exact ⟨rfl, rfl⟩
 ·rw [inB_no (by omega)]
  have h1' : n < lo := by omega
  go_enter Tryz.func124, Tryz.ntmps124
  go_wp2
  go_ret
  exact ⟨rfl, rfl⟩
theorem isSlab_at {s : Int} {b : Bool} (hb : inB s 1 64 = b) (w : World) : Calls Tryz.prog 90 #[.int .i64 s] w fun e w' => e = .returned (.bool b) /\ w = w' := by
 have H := Lib.hid hb
 clear hb
 go_enter Tryz.func90, Tryz.ntmps90
 go_wp2_with fail
 refine (within_at H.out _).mono ?_
 rintro e w' ⟨rfl, rfl⟩
 go_wp2
 go_ret
 exact ⟨rfl, rfl⟩
theorem rooms_cell {w : World} (R : Rms w) (i : Nat) {v : Value} (hv : roomsA[i]? = some v) : w.cell? ⟨0, i, none⟩ = some v := by
 obtain ⟨t, h⟩ := R
 rw [cell_of_row w 0 i roomsA t (0, 0) h]
 exact hv
theorem roomOf_in {c x y z : Int} (w : World) (R : Rms w) (hc : 0 <= c /\ c <= 3) (hx : roomsA[3 * c.toNat]? = some (.int .i64 x)) (hy : roomsA[3 * c.toNat + 1]? = some (.int .i64 y)) (hz : roomsA[3 * c.toNat + 2]? = some (.int .i64 z)) :
  Calls Tryz.prog 128 #[.int .i64 c] w fun e w' => e = .returned (.agg #[.int .i64 x, .int .i64 y, .int .i64 z]) /\ Gr w w' := by
 have HB := Lib.hid (inB_yes hc)
 have c0 := rooms_cell R _ hx
 have c1 := rooms_cell R _ hy
 have c2 := rooms_cell R _ hz
 clear hx hy hz R
 have hcc : c = 0 \/ c = 1 \/ c = 2 \/ c = 3 := by omega
 rcases hcc with rfl | rfl | rfl | rfl
 all_goals
  have n0 := w.block_lt_of_cell? _ c0
  have n1 := w.block_lt_of_cell? _ c1
  have n2 := w.block_lt_of_cell? _ c2
  simp at c0 c1 c2 n0 n1 n2
  go_enter Tryz.func128, Tryz.ntmps128
  go_wp2_with fail
  refine (within_at HB.out _).mono ?_
  rintro e w' ⟨rfl, rfl⟩
  go_wp2
  refine bodyPost_ret (v := .agg #[.int .i64 x, .int .i64 y, .int .i64 z]) (by simp [results, Tryz.results128, go_sem]) rfl ⟨rfl, (Gr.refl _).alloc _⟩
theorem roomOf_out {c : Int} (w : World) (R : Rms w) (hc : ¬ (0 <= c /\ c <= 3)) :
  Calls Tryz.prog 128 #[.int .i64 c] w fun e w' => e = .returned (.agg #[.int .i64 0, .int .i64 0, .int .i64 (-1)]) /\ Gr w w' := by
 have HB := Lib.hid (inB_no hc)
 have c0 : w.cell? ⟨0, 0, none⟩ = some (.int .i64 0) := rooms_cell R 0 rfl
 have c1 : w.cell? ⟨0, 1, none⟩ = some (.int .i64 0) := rooms_cell R 1 rfl
 have c2 : w.cell? ⟨0, 2, none⟩ = some (.int .i64 (-1)) := rooms_cell R 2 rfl
 clear R hc
 have n0 := w.block_lt_of_cell? _ c0
 go_enter Tryz.func128, Tryz.ntmps128
 go_wp2_with fail
 refine (within_at HB.out _).mono ?_
 rintro e w' ⟨rfl, rfl⟩
 go_wp2
 refine bodyPost_ret (v := .agg #[.int .i64 0, .int .i64 0, .int .i64 (-1)]) (by simp [results, Tryz.results128, go_sem]) rfl ⟨rfl, (Gr.refl _).alloc _⟩
theorem roomOf_any (c : Int) (w : World) (R : Rms w) : Calls Tryz.prog 128 #[.int .i64 c] w fun e w' => e = .returned (.agg #[.int .i64 (byC c), .int .i64 (blC c), .int .i64 (vaC c)]) /\ Gr w w' := by
 by_cases hc : 0 <= c /\ c <= 3
 ·refine roomOf_in w R hc ?_ ?_ ?_
  all_goals
   have hcc : c = 0 \/ c = 1 \/ c = 2 \/ c = 3 := by omega
   rcases hcc with rfl | rfl | rfl | rfl <;> rfl
 ·rcases cls c with ⟨h, _⟩ | ⟨h, _⟩ | ⟨h, _⟩ | ⟨_, _, _, h1, h2, h3⟩
  ·omega
  ·omega
  ·omega
  ·rw [h1, h2, h3]
   exact roomOf_out w R hc
theorem field1 (x y z : Int) (w : World) : (Instr.field 214 (.agg #[.int .i64 x, .int .i64 y, .int .i64 z]) 1).run Tryz.prog w = .ok (.int .i64 y) w := by kernel_rfl
theorem blocks_any (c : Int) (w : World) (R : Rms w) : Calls Tryz.prog 98 #[.int .i64 c] w fun e w' => e = .returned (.int .i64 (blC c)) /\ Gr w w' := by
 have H := Lib.hid (roomOf_any c w R)
 clear R
 go_enter Tryz.func98, Tryz.ntmps98
 go_wp2_with fail
 refine H.out.mono ?_
 rintro e w' ⟨rfl, hg⟩
 have hf := field1 (byC c) (blC c) (vaC c) w'
 go_wp2
 go_ret
 exact ⟨rfl, hg⟩
theorem size_any (s : Int) (w : World) : Calls Tryz.prog 57 #[.int .i64 s] w fun e w' => e = .returned (.int .i64 (sizeN s)) /\ w = w' := by
 by_cases h : 1 <= s /\ s <= 64
 ·have HB := Lib.hid (inB_yes h)
  have e : sizeN s = 1024 + 1024 * s := if_pos h
  have HE := Lib.hid e
  obtain ⟨h1, h2⟩ := h
  clear e
  go_enter Tryz.func57, Tryz.ntmps57
  go_wp2_with fail
  refine (isSlab_at HB.out _).mono ?_
  rintro e w' ⟨rfl, rfl⟩
  go_wp2
  go_ret
  exact ⟨gret_int (by rw [HE.out]; omega), rfl⟩
 ·have HB := Lib.hid (inB_no h)
  have e : sizeN s = 0 := if_neg h
  rw [e]
  clear h e
  go_enter Tryz.func57, Tryz.ntmps57
  go_wp2_with fail
  refine (isSlab_at HB.out _).mono ?_
  rintro e w' ⟨rfl, rfl⟩
  go_wp2
  go_ret
  exact ⟨rfl, rfl⟩
theorem header_any (s : Int) (w : World) : Calls Tryz.prog 95 #[.int .i64 s] w fun e w' => e = .returned (.int .u64 (hdA s)) /\ w = w' := by
 by_cases h : 1 <= s /\ s <= 64
 ·have HB := Lib.hid (inB_yes h)
  have e : hdA s = 1024 * s := if_pos h
  have HE := Lib.hid e
  obtain ⟨h1, h2⟩ := h
  clear e
  go_enter Tryz.func95, Tryz.ntmps95
  go_wp2_with fail
  refine (isSlab_at HB.out _).mono ?_
  rintro e w' ⟨rfl, rfl⟩
  go_wp2
  go_ret
  exact ⟨gret_int (by rw [HE.out]; omega), rfl⟩
 ·have HB := Lib.hid (inB_no h)
  have e : hdA s = 0 := if_neg h
  rw [e]
  clear h e
  go_enter Tryz.func95, Tryz.ntmps95
  go_wp2_with fail
  refine (isSlab_at HB.out _).mono ?_
  rintro e w' ⟨rfl, rfl⟩
  go_wp2
  go_ret
  exact ⟨rfl, rfl⟩
theorem hdA_range (s : Int) : 0 <= hdA s /\ hdA s <= 65536 := by
 unfold hdA
 split <;> omega
theorem bits_yes {s : Int} (h : 1 <= s /\ s <= 64) (w : World) : Calls Tryz.prog 96 #[.int .i64 s] w fun e w' => e = .returned (.int .u64 (hdA s + 8)) /\ w = w' := by
 have HB := Lib.hid (inB_yes h)
 have hr := hdA_range s
 obtain ⟨h1, h2⟩ := h
 go_enter Tryz.func96, Tryz.ntmps96
 go_wp2_with fail
 refine (isSlab_at HB.out _).mono ?_
 rintro e w' ⟨rfl, rfl⟩
 go_wp2_with fail
 refine (header_any s _).mono ?_
 rintro e w' ⟨rfl, rfl⟩
 go_wp2
 go_ret
 exact ⟨rfl, rfl⟩
theorem Calls.swap {P : Program} {f : FuncId} {args : Array Value} {w : World} {v : Value} (h : Calls P f args w fun e w' => e = .returned v /\ w = w') : Calls P f args w fun e w' => e = .returned v /\ w' = w := h.mono fun _ _ ⟨a, b⟩ => ⟨a, b.symm⟩
theorem slabs_yes {n : Int} (h : 2048 <= n /\ n <= 66560 /\ n % 1024 = 0) (w : World) : Calls Tryz.prog 51 #[.int .i64 n] w fun e w' => e = .returned (.tuple #[.int .i64 (n / 1024 - 1), .bool true]) /\ w = w' := by
 obtain ⟨h1, h2, h3⟩ := h
 have HB := Lib.hid (inB_yes (n := n / 1024 - 1) (lo := 1) (hi := 64) (by omega))
 have ht : ((n % 1024) != 0) = false := by simp [h3]
 clear h3
 go_enter Tryz.func51, Tryz.ntmps51
 go_wp2_with fail
 refine (isSlab_at HB.out _).mono ?_
 rintro e w' ⟨rfl, rfl⟩
 go_wp2
 go_ret2
 exact ⟨rfl, rfl⟩
theorem block_out {s : Int} (h : ¬ (1 <= s /\ s <= 64)) (c j : Int) (w : World) (R : Rms w) : Calls Tryz.prog 105 #[.int .i64 s, .int .i64 c, .int .i64 j] w fun e w' => e = .returned (.int .u64 0) /\ Gr w w' := by
 have HB := Lib.hid (inB_no h)
 have HR := Lib.hid (roomOf_any c w R)
 clear h R
 generalize byC c = x at HR
 generalize blC c = y at HR
 generalize vaC c = z at HR
 go_enter Tryz.func105, Tryz.ntmps105
 go_wp2_with fail
 refine HR.out.mono ?_
 rintro e w1 ⟨rfl, hg⟩
 go_wp2_with fail
 refine (isSlab_at HB.out _).mono ?_
 rintro e w' ⟨rfl, rfl⟩
 go_wp2
 go_ret
 exact ⟨rfl, hg.alloc _⟩
theorem block_none {s c j : Int} (h : 1 <= s /\ s <= 64) (hj : ¬ (0 <= j /\ j < blC c)) (w : World) (R : Rms w) : Calls Tryz.prog 105 #[.int .i64 s, .int .i64 c, .int .i64 j] w fun e w' => e = .returned (.int .u64 0) /\ Gr w w' := by
 have HB := Lib.hid (inB_yes h)
 have HR := Lib.hid (roomOf_any c w R)
 have hy : 0 <= blC c /\ blC c <= 15 := by rcases cls c with ⟨_, _, h, _⟩ | ⟨_, _, h, _⟩ | ⟨_, _, h, _⟩ | ⟨_, _, _, _, h, _⟩ <;> rw [h] <;> omega
 have HJ := Lib.hid (inB_no (n := j) (lo := 0) (hi := blC c - 1) (by omega))
 clear h R hj
 generalize byC c = x at HR
 generalize blC c = y at HR hy HJ
 generalize vaC c = z at HR
 go_enter Tryz.func105, Tryz.ntmps105
 go_wp2_with fail
 refine HR.out.mono ?_
 rintro e w1 ⟨rfl, hg⟩
 go_wp2_with fail
 refine (isSlab_at HB.out _).mono ?_
 rintro e w' ⟨rfl, rfl⟩
 go_wp2_with fail
 refine (within_at HJ.out _).mono ?_
 rintro e w' ⟨rfl, rfl⟩
 go_wp2
 go_ret
 exact ⟨rfl, hg.alloc _⟩
theorem block_in {s c j x y z : Int} (h : 1 <= s /\ s <= 64) (hj : 0 <= j /\ j <= y - 1) (hy : y <= 15) (hx : x = 64 \/ x = 128 \/ x = 192) (w : World)
  (HR : Hid (Calls Tryz.prog 128 #[.int .i64 c] w fun e w' => e = .returned (.agg #[.int .i64 x, .int .i64 y, .int .i64 z]) /\ Gr w w')) :
  Calls Tryz.prog 105 #[.int .i64 s, .int .i64 c, .int .i64 j] w fun e w' => e = .returned (.int .u64 (1024 * s + 64 + j * x)) /\ Gr w w' := by
 have HB := Lib.hid (inB_yes h)
 have HJ := Lib.hid (inB_yes hj)
 have HH := Lib.hid fun w => Calls.swap (header_any s w)
 have hh := hdA_range s
 have HE := Lib.hid (show hdA s = 1024 * s from if_pos h)
 obtain ⟨h1, h2⟩ := h
 obtain ⟨j1, j2⟩ := hj
 have j3 : j <= 14 := by omega
 rcases hx with rfl | rfl | rfl
 all_goals
  go_enter Tryz.func105, Tryz.ntmps105
  go_wp2_with fail
  refine HR.out.mono ?_
  rintro e w1 ⟨rfl, hg⟩
  go_wp2_with fail
  refine (isSlab_at HB.out _).mono ?_
  rintro e w' ⟨rfl, rfl⟩
  go_wp2_with fail
  refine (within_at HJ.out _).mono ?_
  rintro e w' ⟨rfl, rfl⟩
  go_wp2
  go_quiet ((go_at_call 95; exact Calls.quiet_of_same (HH.out _)))
  go_wp2
  go_ret
  exact ⟨gret_int (by rw [HE.out]), (hg.alloc _).drewN _⟩
theorem block_any (s c j : Int) (w : World) (R : Rms w) : Calls Tryz.prog 105 #[.int .i64 s, .int .i64 c, .int .i64 j] w fun e w' => e = .returned (.int .u64 (blkA s c j)) /\ Gr w w' := by
 by_cases h : 1 <= s /\ s <= 64
 ·by_cases hj : 0 <= j /\ j < blC c
  ·rw [blkA_yes ⟨h.1, h.2, hj.1, hj.2⟩]
   have HR := Lib.hid (roomOf_any c w R)
   rcases cls c with ⟨_, h2, h3, _⟩ | ⟨_, h2, h3, _⟩ | ⟨_, h2, h3, _⟩ | ⟨_, _, _, _, h3, _⟩
   ·exact block_in h (by omega) (by omega) (by omega) w HR
   ·exact block_in h (by omega) (by omega) (by omega) w HR
   ·exact block_in h (by omega) (by omega) (by omega) w HR
   ·omega
  ·rw [blkA_no (by omega)]
   exact block_none h hj w R
 ·rw [blkA_no (by omega)]
  exact block_out h c j w R
end Go.Proofs.YtkbklooocdfcfaaGreatDoor
