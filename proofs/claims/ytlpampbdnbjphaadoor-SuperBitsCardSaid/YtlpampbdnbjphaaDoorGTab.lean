/- What the listed variable geo.rooms gives: its block holds the four classes' numbers; wherever the row's list is met. -/
import Derived.Test.YtlpampbdnbjphaaDoorGr
import Derived.Lib.LaidTab
import Derived.Lib.SmallJoins
namespace Go.Proofs.YtlpampbdnbjphaaDoor
open Go.RowKit Go.Sort
set_option linter.unusedVariables false

/-- What a class has: the cells of geo.rooms. -/
def roomsA : Array Value := #[.int .i64 0, .int .i64 0, .int .i64 (-1), .int .i64 64, .int .i64 15, .int .i64 56, .int .i64 128, .int .i64 7, .int .i64 120, .int .i64 192, .int .i64 5, .int .i64 (-1)]
/-- The variable's block, whole. -/
def Rms (w : World) : Prop := ∃ t, w.heap[0]? = some (.cells roomsA t (0, 0))
theorem Rms.gr {w w' : World} (h : Rms w) (g : Gr w w') : Rms w' := by
  obtain ⟨t, h⟩ := h
  exact ⟨t, g.heap h⟩
theorem Rms.below {w w' : World} (h : Rms w) (g : Below w.heap.size w w') : Rms w' := by
  obtain ⟨t, h⟩ := h
  exact ⟨t, (g.block _ (heap_lt h)).trans h⟩
theorem Rms.alloc {w : World} (h : Rms w) (o : Obj) : Rms (w.alloc o) := h.gr ((Gr.refl w).alloc o)

theorem rooms_named : Tryd.prog.globalNamed "levee/geo.rooms" = some 0 := by kernel_rfl
theorem rooms_type : (Tryd.prog.globals[0]?).map (·.type) = some 59 := by kernel_rfl
theorem cellsInt : Tryd.prog.cellsOf 3 = 1 := by kernel_rfl
theorem cellsRoom : Tryd.prog.cellsOf 57 = 3 := by kernel_rfl
theorem cellsRooms : Tryd.prog.cellsOf 59 = 12 := by kernel_rfl
section
variable {H : Type} {enc : TypeId × Value → H} {w : World} {base : Nat} {sp : Nat → Bool} {held : Bool} {fuel : Nat}
theorem room_cells {cs : List Value} {x y z : Int} {p : List MemPlace}
    (h : DataW.trod enc Tryd.prog w base sp held fuel 57 cs = some (.agg [.lit (.int .i64 x), .lit (.int .i64 y), .lit (.int .i64 z)], p)) : cs = [.int .i64 x, .int .i64 y, .int .i64 z] := by
  cases fuel with
  | zero => simp [DataW.trod] at h
  | succ fuel =>
    simp only [DataW.trod, Tryd.underlying57, cellsRoom, List.mapM_cons, List.mapM_nil, cellsInt, Option.bind_eq_bind, Option.pure_def] at h
    split at h
    · rename_i hl
      obtain ⟨xs, hm, hx⟩ := Option.map_eq_some_iff.1 h
      obtain ⟨u, hu1, hm⟩ := Option.bind_eq_some_iff.1 hm
      obtain ⟨l1, hl1, hm⟩ := Option.bind_eq_some_iff.1 hm
      obtain ⟨v, hv1, hl1⟩ := Option.bind_eq_some_iff.1 hl1
      obtain ⟨l2, hl2, hl1⟩ := Option.bind_eq_some_iff.1 hl1
      obtain ⟨t, ht1, hl2⟩ := Option.bind_eq_some_iff.1 hl2
      simp only [Option.bind_some, Option.some.injEq] at hm hl1 hl2
      subst hl2 hl1 hm
      obtain ⟨n1, c1, rfl, _⟩ := DataW.trod_int Tryd.underlying3 hu1
      obtain ⟨n2, c2, rfl, _⟩ := DataW.trod_int Tryd.underlying3 hv1
      obtain ⟨n3, c3, rfl, _⟩ := DataW.trod_int Tryd.underlying3 ht1
      simp at hx
      obtain ⟨⟨rfl, rfl, rfl⟩, _⟩ := hx
      match cs, hl with
      | [q1, q2, q3], _ =>
        simp at c1 c2 c3
        subst c1 c2 c3
        rfl
    · cases h
theorem rooms_cells {cs : List Value} {p : List MemPlace}
    (h : DataW.trod enc Tryd.prog w base sp held fuel 59 cs = some (.agg [.agg [.lit (.int .i64 0), .lit (.int .i64 0), .lit (.int .i64 (-1))], .agg [.lit (.int .i64 64), .lit (.int .i64 15), .lit (.int .i64 56)], .agg [.lit (.int .i64 128), .lit (.int .i64 7), .lit (.int .i64 120)], .agg [.lit (.int .i64 192), .lit (.int .i64 5), .lit (.int .i64 (-1))]], p)) : cs = roomsA.toList := by
  cases fuel with
  | zero => simp [DataW.trod] at h
  | succ fuel =>
    simp only [DataW.trod, Tryd.underlying59, cellsRooms, cellsRoom, show List.range 4 = [0, 1, 2, 3] from rfl, List.mapM_cons, List.mapM_nil, Option.bind_eq_bind, Option.pure_def] at h
    split at h
    · rename_i hl
      obtain ⟨xs, hm, hx⟩ := Option.map_eq_some_iff.1 h
      obtain ⟨u0, h0, hm⟩ := Option.bind_eq_some_iff.1 hm
      obtain ⟨l1, hl1, hm⟩ := Option.bind_eq_some_iff.1 hm
      obtain ⟨u1, h1, hl1⟩ := Option.bind_eq_some_iff.1 hl1
      obtain ⟨l2, hl2, hl1⟩ := Option.bind_eq_some_iff.1 hl1
      obtain ⟨u2, h2, hl2⟩ := Option.bind_eq_some_iff.1 hl2
      obtain ⟨l3, hl3, hl2⟩ := Option.bind_eq_some_iff.1 hl2
      obtain ⟨u3, h3, hl3⟩ := Option.bind_eq_some_iff.1 hl3
      simp only [Option.bind_some, Option.some.injEq] at hm hl1 hl2 hl3
      subst hl3 hl2 hl1 hm
      obtain ⟨u0a, u0b⟩ := u0
      obtain ⟨u1a, u1b⟩ := u1
      obtain ⟨u2a, u2b⟩ := u2
      obtain ⟨u3a, u3b⟩ := u3
      simp only [List.map_cons, List.map_nil, Prod.mk.injEq, DataW.agg.injEq, List.cons.injEq, and_true] at hx
      obtain ⟨⟨rfl, rfl, rfl, rfl⟩, _⟩ := hx
      have e0 := room_cells h0
      have e1 := room_cells h1
      have e2 := room_cells h2
      have e3 := room_cells h3
      match cs, hl with
      | [q1, q2, q3, q4, q5, q6, q7, q8, q9, q10, q11, q12], _ =>
        simp at e0 e1 e2 e3
        obtain ⟨rfl, rfl, rfl⟩ := e0
        obtain ⟨rfl, rfl, rfl⟩ := e1
        obtain ⟨rfl, rfl, rfl⟩ := e2
        obtain ⟨rfl, rfl, rfl⟩ := e3
        rfl
    · cases h
end
/-- From the row's condition to the walks' fact; geo.rooms stands first on the list. -/
theorem rms_of_head {rest : List (String × DataW Unit)} {w : World} (h : laidMet Tryd.prog (("levee/geo.rooms", Rows.laid_levee_geo_rooms) :: rest) w) : Rms w := by
  obtain ⟨ps, ⟨g, t, cs, fuel, p, q, hg, ht, hvar, hd, hr, rfl⟩, hn, hall⟩ := h
  obtain rfl := Option.some.inj (rooms_named.symm.trans hg)
  obtain rfl := Option.some.inj (rooms_type.symm.trans ht)
  have e := rooms_cells hd
  obtain rfl : cs = roomsA := by cases cs; simp only [Array.toList] at e; subst e; rfl
  obtain ⟨⟨c, t', hc⟩, _⟩ := hall 0 0 (by
    refine List.mem_append.2 (Or.inl (List.mem_append.2 (Or.inl ?_)))
    exact List.mem_of_getElem? (i := 0) (by kernel_rfl))
  refine ⟨t', ?_⟩
  simp only [World.var?, rooms_named, Option.bind_some, hc, Option.some.injEq] at hvar
  rw [hc, hvar]
end Go.Proofs.YtlpampbdnbjphaaDoor
