/- Texts of this claim, packed: HOps, HUp, HDown, HHeap. -/
import Derived.Test.YtkbklooocdfcfaaGreatDoorPz30
import Derived.Deep.QuietTactic
import Derived.BigQuiet
import Derived.RegionTactic
import Derived.BigRegion
import Derived.Outline
set_option linter.unusedVariables false
set_option maxRecDepth 100000
set_option maxHeartbeats 6400000
namespace Go.Proofs.YtkbklooocdfcfaaGreatDoor
open Go.RowKit
theorem sLen_any {w : World} {v : Value} {l : List Nat} (h : Adr w v l) : Calls Tryz.prog 230 #[v] w fun e w' => e = .returned (.int .i64 (l.length : Int)) /\ w = w' := by
 rcases h with ⟨rfl, rfl⟩ | ⟨b, off, cap, cur, rfl, hr, _⟩
 ·go_enter Tryz.func230, Tryz.ntmps230
  go_wp2
  go_ret
  exact ⟨rfl, rfl⟩
 ·clear hr
  go_enter Tryz.func230, Tryz.ntmps230
  go_wp2
  go_ret
  exact ⟨rfl, rfl⟩
def Drew (w w' : World) : Prop := ∃ q, w' = w.drewN q
theorem Drew.below {w w' : World} (h : Drew w w') : Below w.heap.size w w' := by obtain ⟨q, rfl⟩ := h; exact drewN_below _ _
theorem sLess_any {w : World} {h off cap n : Nat} {l : List Nat} (ha : Adr w (.slice (some ⟨h, off, none⟩) n cap) l) (hn : n = l.length) (hl : l.length <= 1000000001) {i j : Nat} (hi : i < l.length) (hj : j < l.length) :
  Calls Tryz.prog 231 #[.slice (some ⟨h, off, none⟩) n cap, .int .i64 (i : Int), .int .i64 (j : Int)] w fun e w' => e = .returned (.bool (decide (gd l i < gd l j))) /\ Drew w w' := by
 have ci := ha.cell hi
 have cj := ha.cell hj
 obtain ⟨x, hx⟩ : ∃ x, x = gd l i := ⟨_, rfl⟩
 obtain ⟨y, hy⟩ : ∃ y, y = gd l j := ⟨_, rfl⟩
 rw [<- hx] at ci ⊢
 rw [<- hy] at cj ⊢
 clear hx hy ha
 rw [<- hn] at hi hj hl
 clear hn
 unfold wv at ci cj
 go_enter Tryz.func231, Tryz.ntmps231
 go_wp2
 go_quiet (fail)
 go_wp2
 go_ret
 exact ⟨by simp, _, rfl⟩
theorem sSwap_any {w : World} {h off cap n : Nat} {l : List Nat} (ha : Adr w (.slice (some ⟨h, off, none⟩) n cap) l) (hn : n = l.length) (hl : l.length <= 1000000001) {i j : Nat} (hi : i < l.length) (hj : j < l.length) :
  Calls Tryz.prog 232 #[.slice (some ⟨h, off, none⟩) n cap, .int .i64 (i : Int), .int .i64 (j : Int)] w fun e w' => e = .returned (.tuple #[]) /\ Adr w' (.slice (some ⟨h, off, none⟩) n cap) (swp l i j) /\ But w w' (fun k => k = h) := by
 have ci := ha.cell hi
 have cj := ha.cell hj
 have fi := ha.free i
 have fj := ha.free j
 have hs : Adr ((w.setCell ⟨h, off + i, none⟩ (wv (gd l j))).setCell ⟨h, off + j, none⟩ (wv (gd l i))) (.slice (some ⟨h, off, none⟩) n cap) (swp l i j) := (Adr.set (ha.set hi (gd l j)) (by rw [List.length_set]; exact hj) (gd l i))
 obtain ⟨x, hx⟩ : ∃ x, x = gd l i := ⟨_, rfl⟩
 obtain ⟨y, hy⟩ : ∃ y, y = gd l j := ⟨_, rfl⟩
 rw [<- hx] at ci hs
 rw [<- hy] at cj hs
 replace hs := Lib.hid hs
 clear hx hy ha
 rw [<- hn] at hi hj hl
 clear hn
 unfold wv at ci cj
 obtain ⟨v', hy'⟩ := cell?_setCell_some (w := w) (p := ⟨h, off + i, none⟩) (x := .int .u64 y) (q := ⟨h, off + j, none⟩) cj
 go_enter Tryz.func232, Tryz.ntmps232
 go_wp2
 go_region
 all_goals (try go_wp2)
 all_goals go_end0
 all_goals exact ⟨rfl, hs.out.keep (fp := fun _ => False) ⟨rfl, rfl, rfl, Nat.le_refl _, fun _ _ _ => rfl⟩ (fun _ _ h => h), ((But.set (But.set (But.refl w (fun k => k = h)) (p := ⟨h, off + i, none⟩) rfl _) (p := ⟨h, off + j, none⟩) rfl _).drew)⟩
theorem Row.one {w : World} {g : Nat} {t : TypeId} {v : Value} (h : Row w g t #[v]) (u : Value) : Row (w.setCell ⟨g, 0, none⟩ u) g t #[u] := h.set 0 u
theorem FreeAt.set {w W : World} {g : Nat} {v v' : Value} {l l' : List Nat} (h : FreeAt w g v l) (hb : But w W (fun k => v.ownBlock = some k)) (ha : Adr W v' l') (hv : ∀ k, v'.ownBlock = some k -> v.ownBlock = some k \/ w.heap.size <= k) :
  FreeAt (W.setCell ⟨g, 0, none⟩ v') g v' l' /\ FTurn w (W.setCell ⟨g, 0, none⟩ v') g v v' := by
 have hne : v'.ownBlock ≠ some g := fun e => by
  rcases hv g e with h1 | h1
  ·exact h.2.2 h1
  ·have := h.1.lt; omega
 have hb' : But W (W.setCell ⟨g, 0, none⟩ v') (fun k => k = g) := (But.refl W (fun k => k = g)).set (p := ⟨g, 0, none⟩) rfl _
 refine ⟨⟨(hb.row h.1 h.2.2).one _, ha.keep hb' (fun k hk e => hne (by rw [hk, e])), hne⟩, ?_, hv⟩
 exact (hb.mono (q := ffp g v) (fun k hk => .inr hk)).trans hb' (fun k hk => .inl (.inl hk))
theorem FreeAt.cell {w : World} {g : Nat} {v : Value} {l : List Nat} (h : FreeAt w g v l) : w.cell? ⟨g, 0, none⟩ = some v := by rw [h.1.cell]; rfl
theorem sPop_any {w : World} {g : Nat} {v : Value} {l : List Nat} (hF : FreeAt w g v l) (h0 : 0 < l.length) (hl : l.length <= 1000000001) :
  Calls Tryz.prog 233 #[.pointer (some ⟨g, 0, none⟩)] w fun e w' => e = .returned (.iface 30 (wv (gd l (l.length - 1)))) /\ ∃ v', FreeAt w' g v' (l.take (l.length - 1)) /\ FTurn w w' g v v' := by
 obtain ⟨h, off, cap, rfl, hc, hm⟩ := hF.2.1.pos h0
 have c0 := hF.cell
 have f0 := hF.1.free 0
 have ci := hF.2.1.cell (i := l.length - 1) (by omega)
 have hR := Lib.hid (hF.set (But.refl w _) (hF.2.1.take (m := l.length - 1) (by omega)) (fun k hk => .inl hk))
 obtain ⟨x, hx⟩ : ∃ x, x = gd l (l.length - 1) := ⟨_, rfl⟩
 rw [<- hx] at ci ⊢
 clear hx hF
 obtain ⟨n, hn⟩ : ∃ n, n + 1 = l.length := ⟨l.length - 1, by omega⟩
 have e1 : l.length - 1 = n := by omega
 rw [e1] at ci hR ⊢
 rw [<- hn] at hR hc hl c0 ⊢
 clear hn e1 h0
 unfold wv at ci
 unfold maxLen at hm
 go_enter Tryz.func233, Tryz.ntmps233
 go_wp2
 go_ret
 exact ⟨rfl, _, hR.out⟩
theorem assertA (x : Int) (w : World) : (Instr.typeAssert (.iface 30 (.int .u64 x)) 20 30 true).run Tryz.prog w = .ok (.tuple #[.int .u64 x, .bool true]) w := by kernel_rfl
theorem und177 : Tryz.prog.underlying 177 = some (.slice 30) := by kernel_rfl
theorem wpList_append_adr {T : TypeId} (hT : Tryz.prog.underlying T = some (.slice 30)) {w : World} {ops : Array Oper} {rest : List Oper} {o : Oper} {a : Act} {Q : Exit -> Act -> World -> Prop} (hgd : o.guard = none) (s x : Operand)
  (ho : o.op = .call { callee := .builtin .append, args := #[s, x], argTypes := #[T, T] }) (v : Value) (l : List Nat) (p : Nat) (hs : a.eval s = v) (ht : Adr w v l) (hn : l.length <= 1000000000)
  (ad : Addr) (c : Nat) (hx : a.eval x = .slice (some ad) 1 c) (hnews : w.cell? ad = some (wv p))
  (h : ∀ h off cap w', Adr w' (.slice (some ⟨h, off, none⟩) (l.length + 1) cap) (l ++ [p]) -> w.grownBy w' v.ownBlock -> (v.ownBlock = some h \/ w.heap.size <= h) -> wpList Tryz.prog ops Q rest (a.put o.dst (.slice (some ⟨h, off, none⟩) (l.length + 1) cap)) w') : wpList Tryz.prog ops Q (o :: rest) a w :=
 wpList_plain hgd fun _ hK => wp_append_adr hT s x ho v l p hs ht hn ad c hx hnews fun h' off cap w' h2 h3 h4 => hK _ _ (h h' off cap w' h2 h3 h4)
theorem sPush_any {w : World} {g : Nat} {v : Value} {l : List Nat} (hF : FreeAt w g v l) (hl : l.length <= 1000000000) (x : Nat) :
  Calls Tryz.prog 234 #[.pointer (some ⟨g, 0, none⟩), .iface 30 (wv x)] w fun e w' => e = .returned (.tuple #[]) /\ ∃ v', FreeAt w' g v' (l ++ [x]) /\ FTurn w w' g v v' := by
 have c0 := hF.cell
 have hF1 : ∀ o, FreeAt (w.alloc o) g v l := fun o => hF.below (alloc_below w o)
 have H1 := Lib.hid hF1
 have HL := Lib.hid hl
 have HG := Lib.hid hF.1.lt
 have HO : ∀ o, But w (w.alloc o) (fun k => v.ownBlock = some k) := fun o => But.of_below (alloc_below w o) _
 have HO' := Lib.hid HO
 have HFF := Lib.hid hF
 clear hF1 hl HO hF
 unfold wv
 have hta := assertA (x : Int)
 go_enter Tryz.func234, Tryz.ntmps234
 go_wp2_with (at_builtin; refine wpList_append_adr und177 (hgd := ?g1) (s := .tmp 15) (x := .tmp 17) (ho := ?g2) (v := v) (l := l) (p := x) (hs := ?g3) (ht := ?g4) (hn := ?g5) (ad := ⟨w.heap.size, 0, none⟩) (c := 1) (hx := ?g6) (hnews := ?g7) ?g8)
 case g1 => rfl
 case g2 => rfl
 case g3 => rfl
 case g4 => exact (H1.out _).2.1
 case g5 => exact HL.out
 case g6 => rfl
 case g7 => simp [wv]
 intro h off cap w1 hadr hgr hblk
 have hbut : But w w1 (fun k => v.ownBlock = some k) := (HO'.out _).trans ⟨hgr.os, hgr.tape, hgr.output, hgr.size, fun k hk hn => hgr.block k hk (fun e => hn e.symm)⟩ (fun k hk => .inl hk)
 have hcell : w1.cell? ⟨g, 0, none⟩ = some v := hbut.cell (p := ⟨g, 0, none⟩) c0 HFF.out.2.2
 have hfree : w1.frozen? ⟨g, 0, none⟩ = false := (hbut.row HFF.out.1 HFF.out.2.2).free 0
 have hR := Lib.hid (HFF.out.set hbut hadr (fun k hk => by cases hk; rcases hblk with h1 | h1; exact .inl h1; exact .inr (show w.heap.size <= h by omega)))
 clear hbut hadr hgr hblk
 go_wp2
 go_end0
 exact ⟨rfl, _, hR.out⟩
def Sw (w0 w : World) (g h off cap n : Nat) (d : List Nat) : Prop := FreeAt w g (.slice (some ⟨h, off, none⟩) n cap) d /\ d.length = n /\ But w0 w (fun k => k = h)
theorem Sw.step {w0 w w' : World} {g h off cap n : Nat} {d d' : List Nat} (s : Sw w0 w g h off cap n d) (ha : Adr w' (.slice (some ⟨h, off, none⟩) n cap) d') (hl : d'.length = n) (hb : But w w' (fun k => k = h)) : Sw w0 w' g h off cap n d' :=
 ⟨⟨hb.row s.1.1 (fun e => s.1.2.2 (by rw [e]; rfl)), ha, s.1.2.2⟩, hl, s.2.2.trans hb (fun k hk => .inl hk)⟩
theorem Sw.drew {w0 w w' : World} {g h off cap n : Nat} {d : List Nat} (s : Sw w0 w g h off cap n d) (hb : Drew w w') : Sw w0 w' g h off cap n d :=
 ⟨s.1.below hb.below, s.2.1, s.2.2.trans (But.of_below hb.below (fun k => k = h)) (fun k hk => .inl hk)⟩
theorem upF_go {l : List Nat} {j : Nat} (h0 : 0 < j) (h : gd l j < gd l ((j - 1) / 2)) : upF l j = upF (swp l ((j - 1) / 2) j) ((j - 1) / 2) := by rw [upF, dif_pos ⟨h0, h⟩]
theorem upF_stop {l : List Nat} {j : Nat} (h : ¬ (0 < j /\ gd l j < gd l ((j - 1) / 2))) : upF l j = l := by rw [upF, dif_neg h]
theorem lt_of {a b c : Nat} (h : a = b) (k : c < b) : c < a := by omega
theorem le_of {a b c : Nat} (h : a = b) (k : b <= c) : a <= c := h ▸ k
def UpEnd (w0 : World) (g h off cap n : Nat) (d : List Nat) (e : Ending) (w' : World) : Prop := e = .returned (.tuple #[]) /\ Sw w0 w' g h off cap n d
def UpRel (w0 : World) (g h off cap n : Nat) (d : List Nat) (v : Value) (wr : World) : Prop := ∃ (j : Nat) (dk : List Nat), v = .int .i64 (j : Int) /\ j < n /\ Sw w0 wr g h off cap n dk /\ upF dk j = d
theorem hup_any {w : World} {g h off cap n : Nat} {l : List Nat} (hF : FreeAt w g (.slice (some ⟨h, off, none⟩) n cap) l) (hn : l.length = n) (hl : n <= 1000000001) {j : Nat} (hj : j < n) :
  Calls Tryz.prog 136 #[.iface 193 (.pointer (some ⟨g, 0, none⟩)), .int .i64 (j : Int)] w (UpEnd w g h off cap n (upF l j)) := by
 have H0 := Lib.hid hF
 have HN := Lib.hid hn
 clear hF hn
 obtain ⟨d, hd⟩ : ∃ d, d = upF l j := ⟨_, rfl⟩
 rw [<- hd]
 have HD := Lib.hid hd
 clear hd
 go_enter Tryz.func136, Tryz.ntmps136
 go_wp2
 go_loopw [1] (fun v wr => UpRel w g h off cap n d v wr) (fun v _ => (intOf v).toNat)
 case atStart => exact ⟨j, l, rfl, hj, ⟨H0.out, HN.out, But.refl _ _⟩, HD.out.symm⟩
 case round =>
  obtain ⟨j, dk, rfl, hj, hS, hU⟩ := hrel
  rename World => wr
  have HS := Lib.hid hS
  have c0 := hS.1.cell
  have hlen := hS.2.1
  by_cases j0 : j = 0
  ·subst j0
   have HE := Lib.hid (show UpEnd w g h off cap n d (.returned (.tuple #[])) wr from ⟨rfl, by rw [<- hU, upF_stop (by omega)]; exact hS⟩)
   clear hS hU hlen
   go_wp2
   go_end0
   exact HE.out
  ·obtain ⟨p, hp⟩ : ∃ p, p = (j - 1) / 2 := ⟨_, rfl⟩
   have hpj : p < n := by omega
   have e1 : ((j : Int) - 1) / 2 = (p : Int) := by omega
   have hne : ((p : Int) == (j : Int)) = false := by rw [Bool.eq_false_iff]; intro hh; have := beq_iff_eq.1 hh; omega
   have hne' : (((j : Int) - 1) / 2 == (j : Int)) = false := by rw [e1]; exact hne
   have hm : (method 394 193 (.pointer (some ⟨g, 0, none⟩)) "Less").run Tryz.prog wr = .ok (231, .slice (some ⟨h, off, none⟩) n cap) wr := m_of mrLess c0
   have hls := sLess_any hS.1.2.1 hS.2.1.symm (by omega) (i := j) (j := p) (by omega) (by omega)
   by_cases hc : gd dk j < gd dk p
   ·rw [decide_eq_true hc] at hls
    have HL := Lib.hid hls
    have HR := Lib.hid (upF_go (l := dk) (j := j) (by omega) (by rw [<- hp]; exact hc))
    have HU := Lib.hid hU
    have HP := Lib.hid hp
    have HLn := Lib.hid hlen
    clear hls hS hU hlen hc hp
    go_wp2_with fail
    refine HL.out.mono ?_
    rintro e w1 ⟨rfl, hdr⟩
    have HS1 := Lib.hid (HS.out.drew hdr)
    clear hdr
    have hm2 : (method 394 193 (.pointer (some ⟨g, 0, none⟩)) "Swap").run Tryz.prog w1 = .ok (232, .slice (some ⟨h, off, none⟩) n cap) w1 := m_of mrSwap HS1.out.1.cell
    have HSW := Lib.hid (sSwap_any HS1.out.1.2.1 HS1.out.2.1.symm (le_of HLn.out hl) (i := p) (j := j) (lt_of HLn.out hpj) (lt_of HLn.out hj))
    go_wp2_with fail
    refine HSW.out.mono ?_
    rintro e w2 ⟨rfl, ha, hbt⟩
    have HS2 := Lib.hid (HS1.out.step ha ((swp_length _ _ _).trans HS1.out.2.1) hbt)
    clear ha hbt
    go_wp2
    go_roundw
    case rel => exact ⟨p, swp dk p j, by first | rfl | rw [e1], hpj, HS2.out, by rw [<- HU.out, HR.out, HP.out]⟩
    case measure => simp [intOf]; omega
   ·rw [decide_eq_false hc] at hls
    have HL := Lib.hid hls
    have HE := Lib.hid (fun w1 (hd : Drew wr w1) => show UpEnd w g h off cap n d (.returned (.tuple #[])) w1 from ⟨rfl, by rw [<- hU, upF_stop (by rw [<- hp]; omega)]; exact hS.drew hd⟩)
    clear hls hS hU hlen hc hp
    go_wp2_with (go_at_call 231; refine HL.out.mono ?_; rintro e w1 ⟨rfl, hdr⟩; have HE1 := Lib.hid (HE.out w1 hdr); clear hdr)
    go_end0
    exact HE1.out
theorem downF_go {l : List Nat} {i n : Nat} (h1 : 2 * i + 1 < n) (h : gd l (dnJ l i n) < gd l i) : downF l i n = downF (swp l i (dnJ l i n)) (dnJ l i n) n := by rw [downF, dif_pos ⟨h1, h⟩]
theorem downF_stop {l : List Nat} {i n : Nat} (h : ¬ (2 * i + 1 < n /\ gd l (dnJ l i n) < gd l i)) : downF l i n = (l, i) := by rw [downF, dif_neg h]
theorem dnJ_r {l : List Nat} {i n : Nat} (h : 2 * i + 2 < n) (k : gd l (2 * i + 2) < gd l (2 * i + 1)) : dnJ l i n = 2 * i + 2 := if_pos ⟨h, k⟩
theorem dnJ_l {l : List Nat} {i n : Nat} (h : ¬ (2 * i + 2 < n /\ gd l (2 * i + 2) < gd l (2 * i + 1))) : dnJ l i n = 2 * i + 1 := if_neg h
def DnEnd (w0 : World) (g h off cap n i0 : Nat) (r : List Nat × Nat) (e : Ending) (w' : World) : Prop := e = .returned (.bool (decide (i0 < r.2))) /\ Sw w0 w' g h off cap n r.1
def DnRel (w0 : World) (g h off cap n m : Nat) (r : List Nat × Nat) (v : Value) (wr : World) : Prop := ∃ (i : Nat) (dk : List Nat), v = .int .i64 (i : Int) /\ i <= m /\ Sw w0 wr g h off cap n dk /\ downF dk i m = r
theorem hdown_any {w : World} {g h off cap n : Nat} {l : List Nat} (hF : FreeAt w g (.slice (some ⟨h, off, none⟩) n cap) l) (hn : l.length = n) (hl : n <= 1000000001) {i0 m : Nat} (hi : i0 <= m) (hm : m < n) :
  Calls Tryz.prog 138 #[.iface 193 (.pointer (some ⟨g, 0, none⟩)), .int .i64 (i0 : Int), .int .i64 (m : Int)] w (DnEnd w g h off cap n i0 (downF l i0 m)) := by
 have H0 := Lib.hid hF
 have HN := Lib.hid hn
 clear hF hn
 obtain ⟨r, hd⟩ : ∃ r, r = downF l i0 m := ⟨_, rfl⟩
 rw [<- hd]
 have HD := Lib.hid hd
 clear hd
 go_enter Tryz.func138, Tryz.ntmps138
 go_wp2
 go_loopw [7] (fun v wr => DnRel w g h off cap n m r v wr) (fun v _ => m - (intOf v).toNat)
 case atStart => exact ⟨i0, l, rfl, hi, ⟨H0.out, HN.out, But.refl _ _⟩, HD.out.symm⟩
 case round =>
  obtain ⟨i, dk, rfl, him, hS, hU⟩ := hrel
  rename World => wr
  have HS := Lib.hid hS
  have c0 := hS.1.cell
  have hlen := hS.2.1
  have ML : (method 394 193 (.pointer (some ⟨g, 0, none⟩)) "Less").run Tryz.prog wr = .ok (231, .slice (some ⟨h, off, none⟩) n cap) wr := m_of mrLess c0
  have hexit : ∀ (W : World), Sw w W g h off cap n dk -> downF dk i m = (dk, i) -> DnEnd w g h off cap n i0 r (.returned (.bool (decide (i0 < i)))) W := by
   intro W hW e
   rw [e] at hU
   subst hU
   exact ⟨rfl, hW⟩
  have HX := Lib.hid hexit
  clear hexit
  by_cases h1 : 2 * i + 1 < m
  ·obtain ⟨k1, hk1⟩ : ∃ k1, k1 = 2 * i + 1 := ⟨_, rfl⟩
   obtain ⟨k2, hk2⟩ : ∃ k2, k2 = 2 * i + 2 := ⟨_, rfl⟩
   have e1 : 2 * (i : Int) + 1 = (k1 : Int) := by omega
   have e2 : (k1 : Int) + 1 = (k2 : Int) := by omega
   have b1 : k1 < m := by omega
   have hLess : ∀ (W : World) (a b : Nat), Sw w W g h off cap n dk -> a < m -> b < m -> ∀ bb, decide (gd dk a < gd dk b) = bb -> Calls Tryz.prog 231 #[.slice (some ⟨h, off, none⟩) n cap, .int .i64 (a : Int), .int .i64 (b : Int)] W fun e w' => e = .returned (.bool bb) /\ Drew W w' := by
    intro W a b hW ha hb bb hbb
    rw [<- hbb]
    exact sLess_any hW.1.2.1 hW.2.1.symm (le_of hW.2.1 hl) (by rw [hW.2.1]; omega) (by rw [hW.2.1]; omega)
   have hSwap : ∀ (W : World) (b : Nat), Sw w W g h off cap n dk -> b < m -> Calls Tryz.prog 232 #[.slice (some ⟨h, off, none⟩) n cap, .int .i64 (i : Int), .int .i64 (b : Int)] W fun e w' => e = .returned (.tuple #[]) /\ Sw w w' g h off cap n (swp dk i b) := by
    intro W b hW hb
    refine (sSwap_any hW.1.2.1 hW.2.1.symm (le_of hW.2.1 hl) (by rw [hW.2.1]; omega) (by rw [hW.2.1]; omega)).mono ?_
    rintro e w' ⟨he, ha, hbt⟩
    exact ⟨he, hW.step ha ((swp_length _ _ _).trans hW.2.1) hbt⟩
   have HLess := Lib.hid hLess
   have HSwap := Lib.hid hSwap
   have HU := Lib.hid hU
   clear hLess hSwap hU hS hlen
   have key : ∀ J : Nat, J = dnJ dk i m -> J < m /\ i < J := by rintro J rfl; have := dnJ_lt (l := dk) h1; omega
   by_cases h2 : 2 * i + 2 < m
   ·by_cases hc : gd dk k2 < gd dk k1
    ·have hJ : k2 = dnJ dk i m := by rw [dnJ_r h2 (by rw [<- hk1, <- hk2]; exact hc)]; exact hk2
     obtain ⟨J0, J1⟩ := key k2 hJ
     have HJ := Lib.hid hJ
     clear hJ
     by_cases hd : gd dk k2 < gd dk i
     ·skip
      have HR := Lib.hid (downF_go (l := dk) (i := i) (n := m) h1 (by rw [<- HJ.out]; exact hd))
      have HC1 := Lib.hid (HLess.out wr k2 k1 HS.out (by omega) b1 true (decide_eq_true hc))
      have HC2 := Lib.hid (fun w1 hs => HLess.out w1 k2 i hs J0 (by omega) true (decide_eq_true hd))
      have HSW := Lib.hid (fun w1 hs => HSwap.out w1 k2 hs J0)
      clear hc hd hk1 hk2 key
      go_wp2_with fail
      refine HC1.out.mono ?_
      rintro e w1 ⟨rfl, hdr⟩
      have HS1 := Lib.hid (HS.out.drew hdr)
      clear hdr
      have ML1 : (method 394 193 (.pointer (some ⟨g, 0, none⟩)) "Less").run Tryz.prog w1 = .ok (231, .slice (some ⟨h, off, none⟩) n cap) w1 := m_of mrLess HS1.out.1.cell
      go_wp2_with fail
      refine (HC2.out w1 HS1.out).mono ?_
      rintro e w2 ⟨rfl, hdr⟩
      have HS2 := Lib.hid (HS1.out.drew hdr)
      clear hdr
      have MS : (method 394 193 (.pointer (some ⟨g, 0, none⟩)) "Swap").run Tryz.prog w2 = .ok (232, .slice (some ⟨h, off, none⟩) n cap) w2 := m_of mrSwap HS2.out.1.cell
      go_wp2_with fail
      refine (HSW.out w2 HS2.out).mono ?_
      rintro e w3 ⟨rfl, hs3⟩
      have HS3 := Lib.hid hs3
      clear hs3
      go_wp2
      go_roundw
      case rel => exact ⟨k2, swp dk i k2, rfl, Nat.le_of_lt J0, HS3.out, by rw [<- HU.out, HR.out, HJ.out]⟩
      case measure => simp [intOf]; omega
     ·skip
      have HR := Lib.hid (downF_stop (l := dk) (i := i) (n := m) (by rw [<- HJ.out]; exact fun h => hd h.2))
      have HC1 := Lib.hid (HLess.out wr k2 k1 HS.out (by omega) b1 true (decide_eq_true hc))
      have HC2 := Lib.hid (fun w1 hs => HLess.out w1 k2 i hs J0 (by omega) false (decide_eq_false hd))
      clear hc hd hk1 hk2 key
      go_wp2_with fail
      refine HC1.out.mono ?_
      rintro e w1 ⟨rfl, hdr⟩
      have HS1 := Lib.hid (HS.out.drew hdr)
      clear hdr
      have ML1 : (method 394 193 (.pointer (some ⟨g, 0, none⟩)) "Less").run Tryz.prog w1 = .ok (231, .slice (some ⟨h, off, none⟩) n cap) w1 := m_of mrLess HS1.out.1.cell
      go_wp2_with fail
      refine (HC2.out w1 HS1.out).mono ?_
      rintro e w2 ⟨rfl, hdr⟩
      have HS2 := Lib.hid (HS1.out.drew hdr)
      clear hdr
      have HE := Lib.hid (HX.out w2 HS2.out HR.out)
      go_wp2
      go_ret
      exact HE.out
    ·have hJ : k1 = dnJ dk i m := by rw [dnJ_l (by rw [<- hk1, <- hk2]; exact fun h => hc h.2)]; exact hk1
     obtain ⟨J0, J1⟩ := key k1 hJ
     have HJ := Lib.hid hJ
     clear hJ
     by_cases hd : gd dk k1 < gd dk i
     ·skip
      have HR := Lib.hid (downF_go (l := dk) (i := i) (n := m) h1 (by rw [<- HJ.out]; exact hd))
      have HC1 := Lib.hid (HLess.out wr k2 k1 HS.out (by omega) b1 false (decide_eq_false hc))
      have HC2 := Lib.hid (fun w1 hs => HLess.out w1 k1 i hs J0 (by omega) true (decide_eq_true hd))
      have HSW := Lib.hid (fun w1 hs => HSwap.out w1 k1 hs J0)
      clear hc hd hk1 hk2 key
      go_wp2_with fail
      refine HC1.out.mono ?_
      rintro e w1 ⟨rfl, hdr⟩
      have HS1 := Lib.hid (HS.out.drew hdr)
      clear hdr
      have ML1 : (method 394 193 (.pointer (some ⟨g, 0, none⟩)) "Less").run Tryz.prog w1 = .ok (231, .slice (some ⟨h, off, none⟩) n cap) w1 := m_of mrLess HS1.out.1.cell
      go_wp2_with fail
      refine (HC2.out w1 HS1.out).mono ?_
      rintro e w2 ⟨rfl, hdr⟩
      have HS2 := Lib.hid (HS1.out.drew hdr)
      clear hdr
      have MS : (method 394 193 (.pointer (some ⟨g, 0, none⟩)) "Swap").run Tryz.prog w2 = .ok (232, .slice (some ⟨h, off, none⟩) n cap) w2 := m_of mrSwap HS2.out.1.cell
      go_wp2_with fail
      refine (HSW.out w2 HS2.out).mono ?_
      rintro e w3 ⟨rfl, hs3⟩
      have HS3 := Lib.hid hs3
      clear hs3
      go_wp2
      go_roundw
      case rel => exact ⟨k1, swp dk i k1, rfl, Nat.le_of_lt J0, HS3.out, by rw [<- HU.out, HR.out, HJ.out]⟩
      case measure => simp [intOf]; omega
     ·skip
      have HR := Lib.hid (downF_stop (l := dk) (i := i) (n := m) (by rw [<- HJ.out]; exact fun h => hd h.2))
      have HC1 := Lib.hid (HLess.out wr k2 k1 HS.out (by omega) b1 false (decide_eq_false hc))
      have HC2 := Lib.hid (fun w1 hs => HLess.out w1 k1 i hs J0 (by omega) false (decide_eq_false hd))
      clear hc hd hk1 hk2 key
      go_wp2_with fail
      refine HC1.out.mono ?_
      rintro e w1 ⟨rfl, hdr⟩
      have HS1 := Lib.hid (HS.out.drew hdr)
      clear hdr
      have ML1 : (method 394 193 (.pointer (some ⟨g, 0, none⟩)) "Less").run Tryz.prog w1 = .ok (231, .slice (some ⟨h, off, none⟩) n cap) w1 := m_of mrLess HS1.out.1.cell
      go_wp2_with fail
      refine (HC2.out w1 HS1.out).mono ?_
      rintro e w2 ⟨rfl, hdr⟩
      have HS2 := Lib.hid (HS1.out.drew hdr)
      clear hdr
      have HE := Lib.hid (HX.out w2 HS2.out HR.out)
      go_wp2
      go_ret
      exact HE.out
   ·have hJ : k1 = dnJ dk i m := by rw [dnJ_l (fun h => h2 h.1)]; exact hk1
    obtain ⟨J0, J1⟩ := key k1 hJ
    have HJ := Lib.hid hJ
    clear hJ
    by_cases hd : gd dk k1 < gd dk i
    ·skip
     have HR := Lib.hid (downF_go (l := dk) (i := i) (n := m) h1 (by rw [<- HJ.out]; exact hd))
     have HC2 := Lib.hid (fun w1 hs => HLess.out w1 k1 i hs J0 (by omega) true (decide_eq_true hd))
     have HSW := Lib.hid (fun w1 hs => HSwap.out w1 k1 hs J0)
     clear  hd hk1 hk2 key
     go_wp2_with fail
     refine (HC2.out wr HS.out).mono ?_
     rintro e w2 ⟨rfl, hdr⟩
     have HS2 := Lib.hid (HS.out.drew hdr)
     clear hdr
     have MS : (method 394 193 (.pointer (some ⟨g, 0, none⟩)) "Swap").run Tryz.prog w2 = .ok (232, .slice (some ⟨h, off, none⟩) n cap) w2 := m_of mrSwap HS2.out.1.cell
     go_wp2_with fail
     refine (HSW.out w2 HS2.out).mono ?_
     rintro e w3 ⟨rfl, hs3⟩
     have HS3 := Lib.hid hs3
     clear hs3
     go_wp2
     go_roundw
     case rel => exact ⟨k1, swp dk i k1, rfl, Nat.le_of_lt J0, HS3.out, by rw [<- HU.out, HR.out, HJ.out]⟩
     case measure => simp [intOf]; omega
    ·skip
     have HR := Lib.hid (downF_stop (l := dk) (i := i) (n := m) (by rw [<- HJ.out]; exact fun h => hd h.2))
     have HC2 := Lib.hid (fun w1 hs => HLess.out w1 k1 i hs J0 (by omega) false (decide_eq_false hd))
     clear  hd hk1 hk2 key
     go_wp2_with fail
     refine (HC2.out wr HS.out).mono ?_
     rintro e w2 ⟨rfl, hdr⟩
     have HS2 := Lib.hid (HS.out.drew hdr)
     clear hdr
     have HE := Lib.hid (HX.out w2 HS2.out HR.out)
     go_wp2
     go_ret
     exact HE.out
  ·have HE := Lib.hid (HX.out wr hS (downF_stop (by omega)))
   clear hU hlen hS HX
   go_wp2
   go_ret
   exact HE.out
theorem Sw.turn {w0 w : World} {g h off cap n : Nat} {d : List Nat} (s : Sw w0 w g h off cap n d) : FTurn w0 w g (.slice (some ⟨h, off, none⟩) n cap) (.slice (some ⟨h, off, none⟩) n cap) :=
 ⟨s.2.2.mono (fun k hk => .inr (by rw [hk]; rfl)), fun _ hk => .inl hk⟩
def HLeft (w : World) (g : Nat) (v : Value) (l : List Nat) (w' : World) : Prop := ∃ v', FreeAt w' g v' l /\ FTurn w w' g v v'
theorem hPush_any {w : World} {g : Nat} {v : Value} {l : List Nat} (hF : FreeAt w g v l) (hl : l.length <= 1000000000) (x : Nat) :
  Calls Tryz.prog 107 #[.iface 193 (.pointer (some ⟨g, 0, none⟩)), .iface 30 (wv x)] w fun e w' => e = .returned (.tuple #[]) /\ HLeft w g v (upF (l ++ [x]) l.length) w' := by
 have HP := Lib.hid (sPush_any hF hl x)
 have mP : (method 394 193 (.pointer (some ⟨g, 0, none⟩)) "Push").run Tryz.prog w = .ok (234, .pointer (some ⟨g, 0, none⟩)) w := m_own mrPush g w
 have HL := Lib.hid hl
 clear hF hl
 go_enter Tryz.func107, Tryz.ntmps107
 go_wp2_with fail
 refine HP.out.mono ?_
 rintro e w1 ⟨rfl, v1, hF1, hT1⟩
 obtain ⟨h, off, cap, rfl, hc, hm⟩ := hF1.2.1.pos (by simp)
 have mL : (method 394 193 (.pointer (some ⟨g, 0, none⟩)) "Len").run Tryz.prog w1 = .ok (230, .slice (some ⟨h, off, none⟩) (l ++ [x]).length cap) w1 := m_of mrLen hF1.cell
 have HLen := Lib.hid (sLen_any hF1.2.1)
 have HUp := Lib.hid (hup_any (j := l.length) hF1 rfl (by have := HL.out; simp; omega) (by simp))
 have HT1 := Lib.hid hT1
 clear hT1 hF1 hc hm
 have e1 : (((l ++ [x]).length : Nat) : Int) - 1 = (l.length : Int) := by simp
 obtain ⟨n, hn⟩ : ∃ n, n = (l ++ [x]).length := ⟨_, rfl⟩
 have hn1 : n = l.length + 1 := by rw [hn]; simp
 have hn2 : n <= 1000000001 := by have := HL.out; omega
 rw [<- hn] at mL HLen HUp e1
 have HN := Lib.hid hn
 clear hn
 obtain ⟨m, hm⟩ : ∃ m, m = l.length := ⟨_, rfl⟩
 rw [<- hm] at HUp e1 hn1
 have HM := Lib.hid hm
 have HN1 := Lib.hid hn1
 clear hm hn1
 go_wp2_with fail
 refine HLen.out.mono ?_
 rintro e w2 ⟨rfl, rfl⟩
 go_wp2_with fail
 refine HUp.out.mono ?_
 rintro e w3 ⟨rfl, hs⟩
 have HS := Lib.hid hs
 clear hs
 go_wp2
 go_end0
 rw [<- HM.out]
 rw [<- HN.out] at HT1
 exact ⟨rfl, _, HS.out.1, HT1.out.trans HS.out.turn⟩
theorem popF_eq (l : List Nat) : popF l = (downF (swp l 0 (l.length - 1)) 0 (l.length - 1)).1 := rfl
theorem hPop_any {w : World} {g : Nat} {v : Value} {l : List Nat} (hF : FreeAt w g v l) (h0 : 0 < l.length) (hl : l.length <= 1000000001) :
  Calls Tryz.prog 111 #[.iface 193 (.pointer (some ⟨g, 0, none⟩))] w fun e w' => e = .returned (.iface 30 (wv (gd (popF l) (l.length - 1)))) /\ HLeft w g v ((popF l).take (l.length - 1)) w' := by
 obtain ⟨h, off, cap, rfl, hc, hm⟩ := hF.2.1.pos h0
 obtain ⟨n, hn⟩ : ∃ n, n = l.length := ⟨_, rfl⟩
 obtain ⟨m, hm'⟩ : ∃ m, m = l.length - 1 := ⟨_, rfl⟩
 have hnm : n = m + 1 := by omega
 rw [popF_eq, <- hm']
 rw [<- hn] at hF hl hc ⊢
 have e1 : (n : Int) - 1 = (m : Int) := by omega
 have mL : (method 394 193 (.pointer (some ⟨g, 0, none⟩)) "Len").run Tryz.prog w = .ok (230, .slice (some ⟨h, off, none⟩) n cap) w := m_of mrLen hF.cell
 have mS : (method 394 193 (.pointer (some ⟨g, 0, none⟩)) "Swap").run Tryz.prog w = .ok (232, .slice (some ⟨h, off, none⟩) n cap) w := m_of mrSwap hF.cell
 have HLen := Lib.hid (sLen_any hF.2.1)
 rw [<- hn] at HLen
 have HSw := Lib.hid (sSwap_any (i := 0) (j := m) hF.2.1 hn (by omega) (by omega) (by omega))
 have HF := Lib.hid hF
 have HN := Lib.hid hn
 have hb : n <= 1000000001 := hl
 have HB := Lib.hid hnm
 clear hF hn hm' hl hc hm h0 hnm
 go_enter Tryz.func111, Tryz.ntmps111
 go_wp2_with fail
 refine HLen.out.mono ?_
 rintro e w1 ⟨rfl, rfl⟩
 go_wp2_with fail
 refine HSw.out.mono ?_
 rintro e w2 ⟨rfl, ha, hbt⟩
 have s0 : Sw w w g h off cap n l := ⟨HF.out, HN.out.symm, But.refl _ _⟩
 have s1 := s0.step ha ((swp_length _ _ _).trans HN.out.symm) hbt
 have HDn := Lib.hid (hdown_any (i0 := 0) (m := m) s1.1 s1.2.1 hb (Nat.zero_le _) (by have := HB.out; omega))
 have HT1 := Lib.hid s1.turn
 clear ha hbt s0 s1
 go_wp2_with fail
 refine HDn.out.mono ?_
 rintro e w3 ⟨rfl, hs⟩
 have mP : (method 394 193 (.pointer (some ⟨g, 0, none⟩)) "Pop").run Tryz.prog w3 = .ok (233, .pointer (some ⟨g, 0, none⟩)) w3 := m_own mrPop g w3
 have HPop := Lib.hid (sPop_any hs.1 (by rw [hs.2.1]; have := HB.out; omega) (by rw [hs.2.1]; exact hb))
 have em : (downF (swp l 0 m) 0 m).1.length - 1 = m := by rw [hs.2.1]; have := HB.out; omega
 rw [em] at HPop
 have HT2 := Lib.hid hs.turn
 clear hs em
 go_wp2_with fail
 refine HPop.out.mono ?_
 rintro e w4 ⟨rfl, v', hF', hT'⟩
 have HE := Lib.hid (show HLeft w g (.slice (some ⟨h, off, none⟩) n cap) ((downF (swp l 0 m) 0 m).1.take m) w4 from ⟨v', hF', (HT1.out.trans HT2.out).trans hT'⟩)
 clear hF' hT'
 go_wp2
 go_ret
 exact ⟨rfl, HE.out⟩
end Go.Proofs.YtkbklooocdfcfaaGreatDoor
