/- The five methods by which container/heap sees a list of addresses: what each answers, and what it makes of the list; for lists of at most 10^9 addresses, and places within. -/
import Derived.Test.YtpdnbojooelmfaaHMeth
import Derived.Deep.QuietTactic
import Derived.BigQuiet
import Derived.RegionTactic
import Derived.BigRegion
import Derived.Outline
namespace Go.Proofs.Ytpdnbojooelmfaa
open Go.RowKit
set_option linter.unusedVariables false
theorem sLen_any {w : World} {v : Value} {l : List Nat} (h : Adr w v l) : Calls Try.prog 76 #[v] w fun e w' => e = .returned (.int .i64 (l.length : Int)) ∧ w = w' := by
  rcases h with ⟨rfl, rfl⟩ | ⟨b, off, cap, cur, rfl, hr, _⟩
  · go_enter Try.func76, Try.ntmps76
    go_wp2
    go_ret
    exact ⟨rfl, rfl⟩
  · clear hr
    go_enter Try.func76, Try.ntmps76
    go_wp2
    go_ret
    exact ⟨rfl, rfl⟩
def Drew (w w' : World) : Prop := ∃ q, w' = w.drewN q
theorem Drew.below {w w' : World} (h : Drew w w') : Below w.heap.size w w' := by obtain ⟨q, rfl⟩ := h; exact drewN_below _ _
set_option maxHeartbeats 400000 in
theorem sLess_any {w : World} {h off cap n : Nat} {l : List Nat} (ha : Adr w (.slice (some ⟨h, off, none⟩) n cap) l) (hn : n = l.length) (hl : l.length ≤ 1000000001) {i j : Nat} (hi : i < l.length) (hj : j < l.length) :
    Calls Try.prog 77 #[.slice (some ⟨h, off, none⟩) n cap, .int .i64 (i : Int), .int .i64 (j : Int)] w fun e w' => e = .returned (.bool (decide (gd l i < gd l j))) ∧ Drew w w' := by
  have ci := ha.cell hi
  have cj := ha.cell hj
  obtain ⟨x, hx⟩ : ∃ x, x = gd l i := ⟨_, rfl⟩
  obtain ⟨y, hy⟩ : ∃ y, y = gd l j := ⟨_, rfl⟩
  rw [← hx] at ci ⊢
  rw [← hy] at cj ⊢
  clear hx hy ha
  rw [← hn] at hi hj hl
  clear hn
  unfold wv at ci cj
  go_enter Try.func77, Try.ntmps77
  go_wp2
  go_quiet (fail)
  go_wp2
  go_ret
  exact ⟨by simp, _, rfl⟩
set_option maxHeartbeats 2000000 in
theorem sSwap_any {w : World} {h off cap n : Nat} {l : List Nat} (ha : Adr w (.slice (some ⟨h, off, none⟩) n cap) l) (hn : n = l.length) (hl : l.length ≤ 1000000001) {i j : Nat} (hi : i < l.length) (hj : j < l.length) :
    Calls Try.prog 78 #[.slice (some ⟨h, off, none⟩) n cap, .int .i64 (i : Int), .int .i64 (j : Int)] w fun e w' => e = .returned (.tuple #[]) ∧ Adr w' (.slice (some ⟨h, off, none⟩) n cap) (swp l i j) ∧ But w w' (fun k => k = h) := by
  have ci := ha.cell hi
  have cj := ha.cell hj
  have fi := ha.free i
  have fj := ha.free j
  have hs : Adr ((w.setCell ⟨h, off + i, none⟩ (wv (gd l j))).setCell ⟨h, off + j, none⟩ (wv (gd l i))) (.slice (some ⟨h, off, none⟩) n cap) (swp l i j) := (Adr.set (ha.set hi (gd l j)) (by rw [List.length_set]; exact hj) (gd l i))
  obtain ⟨x, hx⟩ : ∃ x, x = gd l i := ⟨_, rfl⟩
  obtain ⟨y, hy⟩ : ∃ y, y = gd l j := ⟨_, rfl⟩
  rw [← hx] at ci hs
  rw [← hy] at cj hs
  replace hs := Lib.hid hs
  clear hx hy ha
  rw [← hn] at hi hj hl
  clear hn
  unfold wv at ci cj
  obtain ⟨v', hy'⟩ := cell?_setCell_some (w := w) (p := ⟨h, off + i, none⟩) (x := .int .u64 y) (q := ⟨h, off + j, none⟩) cj
  go_enter Try.func78, Try.ntmps78
  go_wp2
  go_region
  all_goals (try go_wp2)
  all_goals go_end0
  all_goals exact ⟨rfl, hs.out.keep (fp := fun _ => False) ⟨rfl, rfl, rfl, Nat.le_refl _, fun _ _ _ => rfl⟩ (fun _ _ h => h), ((But.set (But.set (But.refl w (fun k => k = h)) (p := ⟨h, off + i, none⟩) rfl _) (p := ⟨h, off + j, none⟩) rfl _).drew)⟩

theorem Row.one {w : World} {g : Nat} {t : TypeId} {v : Value} (h : Row w g t #[v]) (u : Value) : Row (w.setCell ⟨g, 0, none⟩ u) g t #[u] := h.set 0 u
/-- The set's list is another one now, in the same block or in a new one. -/
theorem FreeAt.set {w W : World} {g : Nat} {v v' : Value} {l l' : List Nat} (h : FreeAt w g v l) (hb : But w W (fun k => v.ownBlock = some k)) (ha : Adr W v' l') (hv : ∀ k, v'.ownBlock = some k → v.ownBlock = some k ∨ w.heap.size ≤ k) :
    FreeAt (W.setCell ⟨g, 0, none⟩ v') g v' l' ∧ FTurn w (W.setCell ⟨g, 0, none⟩ v') g v v' := by
  have hne : v'.ownBlock ≠ some g := fun e => by
    rcases hv g e with h1 | h1
    · exact h.2.2 h1
    · have := h.1.lt; omega
  have hb' : But W (W.setCell ⟨g, 0, none⟩ v') (fun k => k = g) := (But.refl W (fun k => k = g)).set (p := ⟨g, 0, none⟩) rfl _
  refine ⟨⟨(hb.row h.1 h.2.2).one _, ha.keep hb' (fun k hk e => hne (by rw [hk, e])), hne⟩, ?_, hv⟩
  exact (hb.mono (q := ffp g v) (fun k hk => .inr hk)).trans hb' (fun k hk => .inl (.inl hk))
theorem FreeAt.cell {w : World} {g : Nat} {v : Value} {l : List Nat} (h : FreeAt w g v l) : w.cell? ⟨g, 0, none⟩ = some v := by rw [h.1.cell]; rfl
set_option maxHeartbeats 400000 in
theorem sPop_any {w : World} {g : Nat} {v : Value} {l : List Nat} (hF : FreeAt w g v l) (h0 : 0 < l.length) (hl : l.length ≤ 1000000001) :
    Calls Try.prog 79 #[.pointer (some ⟨g, 0, none⟩)] w fun e w' => e = .returned (.iface 32 (wv (gd l (l.length - 1)))) ∧ ∃ v', FreeAt w' g v' (l.take (l.length - 1)) ∧ FTurn w w' g v v' := by
  obtain ⟨h, off, cap, rfl, hc, hm⟩ := hF.2.1.pos h0
  have c0 := hF.cell
  have f0 := hF.1.free 0
  have ci := hF.2.1.cell (i := l.length - 1) (by omega)
  have hR := Lib.hid (hF.set (But.refl w _) (hF.2.1.take (m := l.length - 1) (by omega)) (fun k hk => .inl hk))
  obtain ⟨x, hx⟩ : ∃ x, x = gd l (l.length - 1) := ⟨_, rfl⟩
  rw [← hx] at ci ⊢
  clear hx hF
  obtain ⟨n, hn⟩ : ∃ n, n + 1 = l.length := ⟨l.length - 1, by omega⟩
  have e1 : l.length - 1 = n := by omega
  rw [e1] at ci hR ⊢
  rw [← hn] at hR hc hl c0 ⊢
  clear hn e1 h0
  unfold wv at ci
  unfold maxLen at hm
  go_enter Try.func79, Try.ntmps79
  go_wp2
  go_ret
  exact ⟨rfl, _, hR.out⟩
theorem assertA (x : Int) (w : World) : (Instr.typeAssert (.iface 32 (.int .u64 x)) 20 32 true).run Try.prog w = .ok (.tuple #[.int .u64 x, .bool true]) w := by kernel_rfl
theorem und51 : Try.prog.underlying 51 = some (.slice 32) := by kernel_rfl
theorem wpList_append_adr {T : TypeId} (hT : Try.prog.underlying T = some (.slice 32)) {w : World} {ops : Array Oper} {rest : List Oper} {o : Oper} {a : Act} {Q : Exit → Act → World → Prop} (hgd : o.guard = none) (s x : Operand)
    (ho : o.op = .call { callee := .builtin .append, args := #[s, x], argTypes := #[T, T] }) (v : Value) (l : List Nat) (p : Nat) (hs : a.eval s = v) (ht : Adr w v l) (hn : l.length ≤ 1000000000)
    (ad : Addr) (c : Nat) (hx : a.eval x = .slice (some ad) 1 c) (hnews : w.cell? ad = some (wv p))
    (h : ∀ h off cap w', Adr w' (.slice (some ⟨h, off, none⟩) (l.length + 1) cap) (l ++ [p]) → w.grownBy w' v.ownBlock → (v.ownBlock = some h ∨ w.heap.size ≤ h) → wpList Try.prog ops Q rest (a.put o.dst (.slice (some ⟨h, off, none⟩) (l.length + 1) cap)) w') : wpList Try.prog ops Q (o :: rest) a w :=
  wpList_plain hgd fun _ hK => wp_append_adr hT s x ho v l p hs ht hn ad c hx hnews fun h' off cap w' h2 h3 h4 => hK _ _ (h h' off cap w' h2 h3 h4)
set_option maxRecDepth 100000 in
set_option maxHeartbeats 400000 in
theorem sPush_any {w : World} {g : Nat} {v : Value} {l : List Nat} (hF : FreeAt w g v l) (hl : l.length ≤ 1000000000) (x : Nat) :
    Calls Try.prog 80 #[.pointer (some ⟨g, 0, none⟩), .iface 32 (wv x)] w fun e w' => e = .returned (.tuple #[]) ∧ ∃ v', FreeAt w' g v' (l ++ [x]) ∧ FTurn w w' g v v' := by
  have c0 := hF.cell
  have hF1 : ∀ o, FreeAt (w.alloc o) g v l := fun o => hF.below (alloc_below w o)
  have H1 := Lib.hid hF1
  have HL := Lib.hid hl
  have HG := Lib.hid hF.1.lt
  have HO : ∀ o, But w (w.alloc o) (fun k => v.ownBlock = some k) := fun o => But.of_below (alloc_below w o) _
  have HO' := Lib.hid HO
  have HFF := Lib.hid hF
  clear hF1 hl HO hF
  unfold wv
  have hta := assertA (x : Int)
  go_enter Try.func80, Try.ntmps80
  go_wp2_with (at_builtin; refine wpList_append_adr und51 (hgd := ?g1) (s := .tmp 15) (x := .tmp 17) (ho := ?g2) (v := v) (l := l) (p := x) (hs := ?g3) (ht := ?g4) (hn := ?g5) (ad := ⟨w.heap.size, 0, none⟩) (c := 1) (hx := ?g6) (hnews := ?g7) ?g8)
  case g1 => rfl
  case g2 => rfl
  case g3 => rfl
  case g4 => exact (H1.out _).2.1
  case g5 => exact HL.out
  case g6 => rfl
  case g7 => simp [wv]
  intro h off cap w1 hadr hgr hblk
  have hbut : But w w1 (fun k => v.ownBlock = some k) := (HO'.out _).trans ⟨hgr.os, hgr.tape, hgr.output, hgr.size, fun k hk hn => hgr.block k hk (fun e => hn e.symm)⟩ (fun k hk => .inl hk)
  have hcell : w1.cell? ⟨g, 0, none⟩ = some v := hbut.cell (p := ⟨g, 0, none⟩) c0 HFF.out.2.2
  have hfree : w1.frozen? ⟨g, 0, none⟩ = false := (hbut.row HFF.out.1 HFF.out.2.2).free 0
  have hR := Lib.hid (HFF.out.set hbut hadr (fun k hk => by cases hk; rcases hblk with h1 | h1; exact .inl h1; exact .inr (show w.heap.size ≤ h by omega)))
  clear hbut hadr hgr hblk
  go_wp2
  go_end0
  exact ⟨rfl, _, hR.out⟩
end Go.Proofs.Ytpdnbojooelmfaa
