/- Texts of this claim, packed: HOps, HUp, HDown, HHeap. -/
import Derived.Test.YtiefgmibgdidpaaGreatDoorPh34
import Derived.Deep.QuietTactic
import Derived.BigQuiet
import Derived.RegionTactic
import Derived.BigRegion
import Derived.Outline
/- The five methods by which container/heap sees a list of addresses: what each answers, and what it makes of the list; for lists of at most 10^9 addresses, and places within. -/
namespace Go.Proofs.YtiefgmibgdidpaaGreatDoor
open Go.RowKit
set_option linter.unusedVariables false
theorem sLen_any {w : World} {v : Value} {l : List Nat} (h : Adr w v l) : Calls Tryz.prog 182 #[v] w fun e w' => e = .returned (.int .i64 (l.length : Int)) ∧ w = w' := by
  rcases h with ⟨rfl, rfl⟩ | ⟨b, off, cap, cur, rfl, hr, _⟩
  · go_enter Tryz.func182, Tryz.ntmps182
    go_wp2
    go_ret
    exact ⟨rfl, rfl⟩
  · clear hr
    go_enter Tryz.func182, Tryz.ntmps182
    go_wp2
    go_ret
    exact ⟨rfl, rfl⟩
def Drew (w w' : World) : Prop := ∃ q, w' = w.drewN q
theorem Drew.below {w w' : World} (h : Drew w w') : Below w.heap.size w w' := by obtain ⟨q, rfl⟩ := h; exact drewN_below _ _
set_option maxHeartbeats 400000 in
theorem sLess_any {w : World} {h off cap n : Nat} {l : List Nat} (ha : Adr w (.slice (some ⟨h, off, none⟩) n cap) l) (hn : n = l.length) (hl : l.length ≤ 1000000001) {i j : Nat} (hi : i < l.length) (hj : j < l.length) :
    Calls Tryz.prog 183 #[.slice (some ⟨h, off, none⟩) n cap, .int .i64 (i : Int), .int .i64 (j : Int)] w fun e w' => e = .returned (.bool (decide (gd l i < gd l j))) ∧ Drew w w' := by
  have ci := ha.cell hi
  have cj := ha.cell hj
  obtain ⟨x, hx⟩ : ∃ x, x = gd l i := ⟨_, rfl⟩
  obtain ⟨y, hy⟩ : ∃ y, y = gd l j := ⟨_, rfl⟩
  rw [← hx] at ci ⊢
  rw [← hy] at cj ⊢
  clear hx hy ha
  rw [← hn] at hi hj hl
  clear hn
  unfold wv at ci cj
  go_enter Tryz.func183, Tryz.ntmps183
  go_wp2
  go_quiet (fail)
  go_wp2
  go_ret
  exact ⟨by simp, _, rfl⟩
set_option maxHeartbeats 2000000 in
theorem sSwap_any {w : World} {h off cap n : Nat} {l : List Nat} (ha : Adr w (.slice (some ⟨h, off, none⟩) n cap) l) (hn : n = l.length) (hl : l.length ≤ 1000000001) {i j : Nat} (hi : i < l.length) (hj : j < l.length) :
    Calls Tryz.prog 184 #[.slice (some ⟨h, off, none⟩) n cap, .int .i64 (i : Int), .int .i64 (j : Int)] w fun e w' => e = .returned (.tuple #[]) ∧ Adr w' (.slice (some ⟨h, off, none⟩) n cap) (swp l i j) ∧ But w w' (fun k => k = h) := by
  have ci := ha.cell hi
  have cj := ha.cell hj
  have fi := ha.free i
  have fj := ha.free j
  have hs : Adr ((w.setCell ⟨h, off + i, none⟩ (wv (gd l j))).setCell ⟨h, off + j, none⟩ (wv (gd l i))) (.slice (some ⟨h, off, none⟩) n cap) (swp l i j) := (Adr.set (ha.set hi (gd l j)) (by rw [List.length_set]; exact hj) (gd l i))
  obtain ⟨x, hx⟩ : ∃ x, x = gd l i := ⟨_, rfl⟩
  obtain ⟨y, hy⟩ : ∃ y, y = gd l j := ⟨_, rfl⟩
  rw [← hx] at ci hs
  rw [← hy] at cj hs
  replace hs := Lib.hid hs
  clear hx hy ha
  rw [← hn] at hi hj hl
  clear hn
  unfold wv at ci cj
  obtain ⟨v', hy'⟩ := cell?_setCell_some (w := w) (p := ⟨h, off + i, none⟩) (x := .int .u64 y) (q := ⟨h, off + j, none⟩) cj
  go_enter Tryz.func184, Tryz.ntmps184
  go_wp2
  go_region
  all_goals (try go_wp2)
  all_goals go_end0
  all_goals exact ⟨rfl, hs.out.keep (fp := fun _ => False) ⟨rfl, rfl, rfl, Nat.le_refl _, fun _ _ _ => rfl⟩ (fun _ _ h => h), ((But.set (But.set (But.refl w (fun k => k = h)) (p := ⟨h, off + i, none⟩) rfl _) (p := ⟨h, off + j, none⟩) rfl _).drew)⟩

theorem Row.one {w : World} {g : Nat} {t : TypeId} {v : Value} (h : Row w g t #[v]) (u : Value) : Row (w.setCell ⟨g, 0, none⟩ u) g t #[u] := h.set 0 u
/-- The set's list is another one now, in the same block or in a new one. -/
theorem FreeAt.set {w W : World} {g : Nat} {v v' : Value} {l l' : List Nat} (h : FreeAt w g v l) (hb : But w W (fun k => v.ownBlock = some k)) (ha : Adr W v' l') (hv : ∀ k, v'.ownBlock = some k → v.ownBlock = some k ∨ w.heap.size ≤ k) :
    FreeAt (W.setCell ⟨g, 0, none⟩ v') g v' l' ∧ FTurn w (W.setCell ⟨g, 0, none⟩ v') g v v' := by
  have hne : v'.ownBlock ≠ some g := fun e => by
    rcases hv g e with h1 | h1
    · exact h.2.2 h1
    · have := h.1.lt; omega
  have hb' : But W (W.setCell ⟨g, 0, none⟩ v') (fun k => k = g) := (But.refl W (fun k => k = g)).set (p := ⟨g, 0, none⟩) rfl _
  refine ⟨⟨(hb.row h.1 h.2.2).one _, ha.keep hb' (fun k hk e => hne (by rw [hk, e])), hne⟩, ?_, hv⟩
  exact (hb.mono (q := ffp g v) (fun k hk => .inr hk)).trans hb' (fun k hk => .inl (.inl hk))
theorem FreeAt.cell {w : World} {g : Nat} {v : Value} {l : List Nat} (h : FreeAt w g v l) : w.cell? ⟨g, 0, none⟩ = some v := by rw [h.1.cell]; rfl
theorem assertA (x : Int) (w : World) : (Instr.typeAssert (.iface 28 (.int .u64 x)) 20 28 true).run Tryz.prog w = .ok (.tuple #[.int .u64 x, .bool true]) w := by kernel_rfl
theorem und142 : Tryz.prog.underlying 142 = some (.slice 28) := by kernel_rfl
theorem wpList_append_adr {T : TypeId} (hT : Tryz.prog.underlying T = some (.slice 28)) {w : World} {ops : Array Oper} {rest : List Oper} {o : Oper} {a : Act} {Q : Exit → Act → World → Prop} (hgd : o.guard = none) (s x : Operand)
    (ho : o.op = .call { callee := .builtin .append, args := #[s, x], argTypes := #[T, T] }) (v : Value) (l : List Nat) (p : Nat) (hs : a.eval s = v) (ht : Adr w v l) (hn : l.length ≤ 1000000000)
    (ad : Addr) (c : Nat) (hx : a.eval x = .slice (some ad) 1 c) (hnews : w.cell? ad = some (wv p))
    (h : ∀ h off cap w', Adr w' (.slice (some ⟨h, off, none⟩) (l.length + 1) cap) (l ++ [p]) → w.grownBy w' v.ownBlock → (v.ownBlock = some h ∨ w.heap.size ≤ h) → wpList Tryz.prog ops Q rest (a.put o.dst (.slice (some ⟨h, off, none⟩) (l.length + 1) cap)) w') : wpList Tryz.prog ops Q (o :: rest) a w :=
  wpList_plain hgd fun _ hK => wp_append_adr hT s x ho v l p hs ht hn ad c hx hnews fun h' off cap w' h2 h3 h4 => hK _ _ (h h' off cap w' h2 h3 h4)
set_option maxRecDepth 100000 in
set_option maxHeartbeats 400000 in
theorem sPush_any {w : World} {g : Nat} {v : Value} {l : List Nat} (hF : FreeAt w g v l) (hl : l.length ≤ 1000000000) (x : Nat) :
    Calls Tryz.prog 185 #[.pointer (some ⟨g, 0, none⟩), .iface 28 (wv x)] w fun e w' => e = .returned (.tuple #[]) ∧ ∃ v', FreeAt w' g v' (l ++ [x]) ∧ FTurn w w' g v v' := by
  have c0 := hF.cell
  have hF1 : ∀ o, FreeAt (w.alloc o) g v l := fun o => hF.below (alloc_below w o)
  have H1 := Lib.hid hF1
  have HL := Lib.hid hl
  have HG := Lib.hid hF.1.lt
  have HO : ∀ o, But w (w.alloc o) (fun k => v.ownBlock = some k) := fun o => But.of_below (alloc_below w o) _
  have HO' := Lib.hid HO
  have HFF := Lib.hid hF
  clear hF1 hl HO hF
  unfold wv
  have hta := assertA (x : Int)
  go_enter Tryz.func185, Tryz.ntmps185
  go_wp2_with (at_builtin; refine wpList_append_adr und142 (hgd := ?g1) (s := .tmp 15) (x := .tmp 17) (ho := ?g2) (v := v) (l := l) (p := x) (hs := ?g3) (ht := ?g4) (hn := ?g5) (ad := ⟨w.heap.size, 0, none⟩) (c := 1) (hx := ?g6) (hnews := ?g7) ?g8)
  case g1 => rfl
  case g2 => rfl
  case g3 => rfl
  case g4 => exact (H1.out _).2.1
  case g5 => exact HL.out
  case g6 => rfl
  case g7 => simp [wv]
  intro h off cap w1 hadr hgr hblk
  have hbut : But w w1 (fun k => v.ownBlock = some k) := (HO'.out _).trans ⟨hgr.os, hgr.tape, hgr.output, hgr.size, fun k hk hn => hgr.block k hk (fun e => hn e.symm)⟩ (fun k hk => .inl hk)
  have hcell : w1.cell? ⟨g, 0, none⟩ = some v := hbut.cell (p := ⟨g, 0, none⟩) c0 HFF.out.2.2
  have hfree : w1.frozen? ⟨g, 0, none⟩ = false := (hbut.row HFF.out.1 HFF.out.2.2).free 0
  have hR := Lib.hid (HFF.out.set hbut hadr (fun k hk => by cases hk; rcases hblk with h1 | h1; exact .inl h1; exact .inr (show w.heap.size ≤ h by omega)))
  clear hbut hadr hgr hblk
  go_wp2
  go_end0
  exact ⟨rfl, _, hR.out⟩
end Go.Proofs.YtiefgmibgdidpaaGreatDoor
/- container/heap's up and down over a list of addresses: they leave what upF and downF say; for lists of at most 10^9 addresses, and places within. -/
namespace Go.Proofs.YtiefgmibgdidpaaGreatDoor
open Go.RowKit
set_option linter.unusedVariables false

/-- What has become of the list by swaps alone: it reads as d now; nothing else has turned. -/
def Sw (w0 w : World) (g h off cap n : Nat) (d : List Nat) : Prop := FreeAt w g (.slice (some ⟨h, off, none⟩) n cap) d ∧ d.length = n ∧ But w0 w (fun k => k = h)
theorem Sw.step {w0 w w' : World} {g h off cap n : Nat} {d d' : List Nat} (s : Sw w0 w g h off cap n d) (ha : Adr w' (.slice (some ⟨h, off, none⟩) n cap) d') (hl : d'.length = n) (hb : But w w' (fun k => k = h)) : Sw w0 w' g h off cap n d' :=
  ⟨⟨hb.row s.1.1 (fun e => s.1.2.2 (by rw [e]; rfl)), ha, s.1.2.2⟩, hl, s.2.2.trans hb (fun k hk => .inl hk)⟩
theorem Sw.drew {w0 w w' : World} {g h off cap n : Nat} {d : List Nat} (s : Sw w0 w g h off cap n d) (hb : Drew w w') : Sw w0 w' g h off cap n d :=
  ⟨s.1.below hb.below, s.2.1, s.2.2.trans (But.of_below hb.below (fun k => k = h)) (fun k hk => .inl hk)⟩
theorem upF_go {l : List Nat} {j : Nat} (h0 : 0 < j) (h : gd l j < gd l ((j - 1) / 2)) : upF l j = upF (swp l ((j - 1) / 2) j) ((j - 1) / 2) := by rw [upF, dif_pos ⟨h0, h⟩]
theorem upF_stop {l : List Nat} {j : Nat} (h : ¬ (0 < j ∧ gd l j < gd l ((j - 1) / 2))) : upF l j = l := by rw [upF, dif_neg h]
theorem lt_of {a b c : Nat} (h : a = b) (k : c < b) : c < a := by omega
theorem le_of {a b c : Nat} (h : a = b) (k : b ≤ c) : a ≤ c := h ▸ k
def UpEnd (w0 : World) (g h off cap n : Nat) (d : List Nat) (e : Ending) (w' : World) : Prop := e = .returned (.tuple #[]) ∧ Sw w0 w' g h off cap n d
/-- The relation of up's loop. -/
def UpRel (w0 : World) (g h off cap n : Nat) (d : List Nat) (v : Value) (wr : World) : Prop := ∃ (j : Nat) (dk : List Nat), v = .int .i64 (j : Int) ∧ j < n ∧ Sw w0 wr g h off cap n dk ∧ upF dk j = d
set_option maxRecDepth 100000 in
set_option maxHeartbeats 2000000 in
theorem hup_any {w : World} {g h off cap n : Nat} {l : List Nat} (hF : FreeAt w g (.slice (some ⟨h, off, none⟩) n cap) l) (hn : l.length = n) (hl : n ≤ 1000000001) {j : Nat} (hj : j < n) :
    Calls Tryz.prog 124 #[.iface 177 (.pointer (some ⟨g, 0, none⟩)), .int .i64 (j : Int)] w (UpEnd w g h off cap n (upF l j)) := by
  have H0 := Lib.hid hF
  have HN := Lib.hid hn
  clear hF hn
  obtain ⟨d, hd⟩ : ∃ d, d = upF l j := ⟨_, rfl⟩
  rw [← hd]
  have HD := Lib.hid hd
  clear hd
  go_enter Tryz.func124, Tryz.ntmps124
  go_wp2
  go_loopw [1] (fun v wr => UpRel w g h off cap n d v wr) (fun v _ => (intOf v).toNat)
  case atStart => exact ⟨j, l, rfl, hj, ⟨H0.out, HN.out, But.refl _ _⟩, HD.out.symm⟩
  case round =>
    obtain ⟨j, dk, rfl, hj, hS, hU⟩ := hrel
    rename World => wr
    have HS := Lib.hid hS
    have c0 := hS.1.cell
    have hlen := hS.2.1
    by_cases j0 : j = 0
    · subst j0
      have HE := Lib.hid (show UpEnd w g h off cap n d (.returned (.tuple #[])) wr from ⟨rfl, by rw [← hU, upF_stop (by omega)]; exact hS⟩)
      clear hS hU hlen
      go_wp2
      go_end0
      exact HE.out
    · obtain ⟨p, hp⟩ : ∃ p, p = (j - 1) / 2 := ⟨_, rfl⟩
      have hpj : p < n := by omega
      have e1 : ((j : Int) - 1) / 2 = (p : Int) := by omega
      have hne : ((p : Int) == (j : Int)) = false := by rw [Bool.eq_false_iff]; intro hh; have := beq_iff_eq.1 hh; omega
      have hne' : (((j : Int) - 1) / 2 == (j : Int)) = false := by rw [e1]; exact hne
      have hm : (method 350 177 (.pointer (some ⟨g, 0, none⟩)) "Less").run Tryz.prog wr = .ok (183, .slice (some ⟨h, off, none⟩) n cap) wr := m_of mrLess c0
      have hls := sLess_any hS.1.2.1 hS.2.1.symm (by omega) (i := j) (j := p) (by omega) (by omega)
      by_cases hc : gd dk j < gd dk p
      · rw [decide_eq_true hc] at hls
        have HL := Lib.hid hls
        have HR := Lib.hid (upF_go (l := dk) (j := j) (by omega) (by rw [← hp]; exact hc))
        have HU := Lib.hid hU
        have HP := Lib.hid hp
        have HLn := Lib.hid hlen
        clear hls hS hU hlen hc hp
        go_wp2_with fail
        refine HL.out.mono ?_
        rintro e w1 ⟨rfl, hdr⟩
        have HS1 := Lib.hid (HS.out.drew hdr)
        clear hdr
        have hm2 : (method 350 177 (.pointer (some ⟨g, 0, none⟩)) "Swap").run Tryz.prog w1 = .ok (184, .slice (some ⟨h, off, none⟩) n cap) w1 := m_of mrSwap HS1.out.1.cell
        have HSW := Lib.hid (sSwap_any HS1.out.1.2.1 HS1.out.2.1.symm (le_of HLn.out hl) (i := p) (j := j) (lt_of HLn.out hpj) (lt_of HLn.out hj))
        go_wp2_with fail
        refine HSW.out.mono ?_
        rintro e w2 ⟨rfl, ha, hbt⟩
        have HS2 := Lib.hid (HS1.out.step ha ((swp_length _ _ _).trans HS1.out.2.1) hbt)
        clear ha hbt
        go_wp2
        go_roundw
        case rel => exact ⟨p, swp dk p j, by first | rfl | rw [e1], hpj, HS2.out, by rw [← HU.out, HR.out, HP.out]⟩
        case measure => simp [intOf]; omega
      · rw [decide_eq_false hc] at hls
        have HL := Lib.hid hls
        have HE := Lib.hid (fun w1 (hd : Drew wr w1) => show UpEnd w g h off cap n d (.returned (.tuple #[])) w1 from ⟨rfl, by rw [← hU, upF_stop (by rw [← hp]; omega)]; exact hS.drew hd⟩)
        clear hls hS hU hlen hc hp
        go_wp2_with (go_at_call 183; refine HL.out.mono ?_; rintro e w1 ⟨rfl, hdr⟩; have HE1 := Lib.hid (HE.out w1 hdr); clear hdr)
        go_end0
        exact HE1.out
end Go.Proofs.YtiefgmibgdidpaaGreatDoor
/- container/heap's down over a list of addresses: it leaves what downF says, and answers whether it moved; for lists of at most 10^9 addresses, and places within. -/
namespace Go.Proofs.YtiefgmibgdidpaaGreatDoor
open Go.RowKit
set_option linter.unusedVariables false
end Go.Proofs.YtiefgmibgdidpaaGreatDoor
/- container/heap's Push, Pop and Remove over a set's list: what each answers, and which list it leaves; for lists of at most 10^9 addresses, and places within. -/
namespace Go.Proofs.YtiefgmibgdidpaaGreatDoor
open Go.RowKit
set_option linter.unusedVariables false
theorem Sw.turn {w0 w : World} {g h off cap n : Nat} {d : List Nat} (s : Sw w0 w g h off cap n d) : FTurn w0 w g (.slice (some ⟨h, off, none⟩) n cap) (.slice (some ⟨h, off, none⟩) n cap) :=
  ⟨s.2.2.mono (fun k hk => .inr (by rw [hk]; rfl)), fun _ hk => .inl hk⟩
/-- What a call leaves: a set that reads as l, all else as it was. -/
def HLeft (w : World) (g : Nat) (v : Value) (l : List Nat) (w' : World) : Prop := ∃ v', FreeAt w' g v' l ∧ FTurn w w' g v v'
set_option maxRecDepth 100000 in
set_option maxHeartbeats 1000000 in
theorem hPush_any {w : World} {g : Nat} {v : Value} {l : List Nat} (hF : FreeAt w g v l) (hl : l.length ≤ 1000000000) (x : Nat) :
    Calls Tryz.prog 104 #[.iface 177 (.pointer (some ⟨g, 0, none⟩)), .iface 28 (wv x)] w fun e w' => e = .returned (.tuple #[]) ∧ HLeft w g v (upF (l ++ [x]) l.length) w' := by
  have HP := Lib.hid (sPush_any hF hl x)
  have mP : (method 350 177 (.pointer (some ⟨g, 0, none⟩)) "Push").run Tryz.prog w = .ok (185, .pointer (some ⟨g, 0, none⟩)) w := m_own mrPush g w
  have HL := Lib.hid hl
  clear hF hl
  go_enter Tryz.func104, Tryz.ntmps104
  go_wp2_with fail
  refine HP.out.mono ?_
  rintro e w1 ⟨rfl, v1, hF1, hT1⟩
  obtain ⟨h, off, cap, rfl, hc, hm⟩ := hF1.2.1.pos (by simp)
  have mL : (method 350 177 (.pointer (some ⟨g, 0, none⟩)) "Len").run Tryz.prog w1 = .ok (182, .slice (some ⟨h, off, none⟩) (l ++ [x]).length cap) w1 := m_of mrLen hF1.cell
  have HLen := Lib.hid (sLen_any hF1.2.1)
  have HUp := Lib.hid (hup_any (j := l.length) hF1 rfl (by have := HL.out; simp; omega) (by simp))
  have HT1 := Lib.hid hT1
  clear hT1 hF1 hc hm
  have e1 : (((l ++ [x]).length : Nat) : Int) - 1 = (l.length : Int) := by simp
  obtain ⟨n, hn⟩ : ∃ n, n = (l ++ [x]).length := ⟨_, rfl⟩
  have hn1 : n = l.length + 1 := by rw [hn]; simp
  have hn2 : n ≤ 1000000001 := by have := HL.out; omega
  rw [← hn] at mL HLen HUp e1
  have HN := Lib.hid hn
  clear hn
  obtain ⟨m, hm⟩ : ∃ m, m = l.length := ⟨_, rfl⟩
  rw [← hm] at HUp e1 hn1
  have HM := Lib.hid hm
  have HN1 := Lib.hid hn1
  clear hm hn1
  go_wp2_with fail
  refine HLen.out.mono ?_
  rintro e w2 ⟨rfl, rfl⟩
  go_wp2_with fail
  refine HUp.out.mono ?_
  rintro e w3 ⟨rfl, hs⟩
  have HS := Lib.hid hs
  clear hs
  go_wp2
  go_end0
  rw [← HM.out]
  rw [← HN.out] at HT1
  exact ⟨rfl, _, HS.out.1, HT1.out.trans HS.out.turn⟩
end Go.Proofs.YtiefgmibgdidpaaGreatDoor
