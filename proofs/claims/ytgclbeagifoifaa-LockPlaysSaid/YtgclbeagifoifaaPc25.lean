/- Texts of this claim, packed: 7RNew, 7RMk. -/
import Derived.Test.YtgclbeagifoifaaPc24
import Derived.Maps.AppendAt
/- The law's own Try of a lock that nobody has. -/
namespace Go.Proofs.Ytgclbeagifoifaa
open Go.RowKit
set_option linter.unusedVariables false
theorem own_same {w w' : World} {B n k : Nat} {e : TypeId} {v : Value} {xs : List Value} (h : w.ownsRow B e k v n xs) (hk : ∀ g, v.ownBlock = some g → w'.heap[g]? = w.heap[g]?) : w'.ownsRow B e k v n xs := by
  refine ⟨h.1, ?_⟩
  rcases h.2 with h0 | ⟨g, cap, cur, rfl, hg, hh, hr⟩
  · exact .inl h0
  · exact .inr ⟨g, cap, cur, rfl, hg, (hk g rfl).trans hh, hr⟩
theorem own_tg {w : World} {B n k : Nat} {e : TypeId} {v : Value} {xs : List Value} (h : w.ownsRow B e k v n xs) {g : Nat} (hg : v.ownBlock = some g) : ∃ cs, w.heap[g]? = some (.cells cs e (0, 0)) := by
  rcases h.2 with ⟨rfl, _⟩ | ⟨g', cap, cur, rfl, _, hh, _⟩
  · cases hg
  · cases hg; exact ⟨_, hh⟩
theorem tg_ne {w : World} {a b : Nat} {t u : TypeId} {cs ds : Array Value} (h1 : w.heap[a]? = some (.cells cs t (0, 0))) (h2 : w.heap[b]? = some (.cells ds u (0, 0))) (hne : t ≠ u) : a ≠ b := fun e => by
  subst e
  rw [h1] at h2
  injection h2 with h2
  injection h2 with _ h2 _
  exact hne h2
theorem kinfoHas : (Try.prog.info? 67).map (fun i => (i.zero, i.size, i.bytes)) = some (some (.agg #[.int .u64 0, .int .i64 0]), 2, 16) := by kernel_rfl
set_option maxRecDepth 100000 in
set_option maxHeartbeats 2000000 in
theorem rTry_new {w : World} {B gr n : Nat} {l : List (Nat × Nat)} {wt : Nat → Nat} {vL vW : Value} (h : RefAt w B gr n l wt vL vW) (hB : B ≤ w.heap.size) (hl : l.length ≤ 1000) {c id : Nat} (hc : c < n) (h0 : id ≠ 0) (hd : rHold l id = -1) :
    Calls Try.prog 18 #[.pointer (some ⟨gr, 0, none⟩), .int .i64 (c : Int), .int .u64 (id : Int)] w fun e w' => e = .returned (.bool true) ∧ (∃ vL', RefAt w' B gr n (l ++ [(id, c)]) (setW wt c 0) vL' vW ∧ ∀ k, vL'.ownBlock = some k → vL.ownBlock = some k ∨ w.heap.size ≤ k) ∧ But w w' (rfp gr vL vW) := by
  obtain ⟨i0, hi, hz0, hz1, hz2⟩ := info_parts kinfoHas
  have HI := rIs_any h (c : Int)
  rw [decide_eq_true (show 0 ≤ (c : Int) ∧ (c : Int) < (n : Int) by omega)] at HI
  have HI := Lib.hid HI
  have HH := rHolder_any h id
  rw [hd] at HH
  have HH := Lib.hid HH
  obtain ⟨gw, cap, rfl, hnc, hm, hcell, hfr, hset⟩ := h.wset hc
  obtain ⟨hR, hBut⟩ := hset 0
  have hgw : gr ≠ gw := by
    obtain ⟨cs, hcs⟩ := own_tg h.wa (g := gw) rfl
    exact tg_ne h.row hcs (by decide)
  have c00 := h.row.cell 0
  simp only [List.getElem?_toArray, List.getElem?_cons_zero] at c00
  change RefAt (w.setCell ⟨gw, c, none⟩ (.int .u64 0)) B gr n l (setW wt c 0) vL _ at hR
  change But w (w.setCell ⟨gw, c, none⟩ (.int .u64 0)) _ at hBut
  have c1 := h.row.cell 1
  simp only [List.getElem?_toArray, List.getElem?_cons_succ, List.getElem?_cons_zero] at c1
  have hz := nat_eq0 h0
  have c0 := hR.row.cell 0
  simp only [List.getElem?_toArray, List.getElem?_cons_zero] at c0
  obtain ⟨m, hmm⟩ : ∃ m, m = l.length := ⟨_, rfl⟩
  have hli := hR.li
  have hgs : gr < w.heap.size := h.row.lt
  rw [← hmm] at hli hl
  have hrow := hR.row
  have HR := Lib.hid hR
  have HBU := Lib.hid hBut
  have HMM := Lib.hid hmm
  have HLI := Lib.hid hli
  have HROW := Lib.hid hrow
  have hne0 : ∀ (W : World) (o : Obj), (W.alloc o).heap[W.heap.size]? = some o := heap_alloc_new
  have HNE := Lib.hid hne0
  have hgn : ∀ q, vL.ownBlock = some q → q ≠ gr := fun q hq => by
    obtain ⟨cs, hcs⟩ := own_tg hli hq
    exact tg_ne hcs hrow (by decide)
  have HGN := Lib.hid hgn
  clear h hset hd h0 hR hBut hmm hli hrow hne0 hgn
  go_enter Try.func18, Try.ntmps18
  go_wp2_with fail
  refine HI.out.mono ?_
  rintro e w1 ⟨rfl, rfl⟩
  go_wp2_with fail
  refine HH.out.mono ?_
  rintro e w1 ⟨rfl, rfl⟩
  go_wp2_with (at_builtin; refine wpList_append_own_at _ rfl _ _ 37 rfl B 67 i0 (.agg #[.int .u64 0, .int .i64 0]) 2 16 Try.underlying37 hi hz0 hz1 hz2 rfl (by decide) _ m _ rfl (HLI.out.alloc _) ⟨w.heap.size, 0, none⟩ 1 1 [.int .u64 (id : Int), .int .i64 (c : Int)] rfl rfl ?q1 ?q2 ?q3 ?q4 ?q5 ?_)
  case q1 =>
    have hr := Row.new (w.setCell ⟨gw, c, none⟩ (.int .u64 0)) 67 #[.int .u64 (id : Int), .int .i64 (c : Int)]
    rw [size_set] at hr
    intro j u hj
    rw [Addr.add_lit, hr.cell, Nat.zero_add]
    simpa using hj
  case q2 => simp [Value.oneCell']
  case q3 => unfold maxLen; omega
  case q4 => omega
  case q5 => simp [size_set]; omega
  intro v' w2 hown' hgrow hnil hat
  obtain ⟨g', cap', cur', rfl, hBg, _, _, hrow', _⟩ := own2_shape hown' (by omega)
  have hrow2 : Row w2 gr 40 #[vL, .slice (some ⟨gw, 0, none⟩) n cap] := (HROW.out.alloc _).grown hgrow (fun e => HGN.out gr e.symm rfl)
  have c02 := hrow2.cell 0
  simp only [List.getElem?_toArray, List.getElem?_cons_zero] at c02
  have f02 := hrow2.free 0
  have HE : Hid ((∃ vL', RefAt (w2.setCell ⟨gr, 0, none⟩ (.slice (some ⟨g', 0, none⟩) (m + 1) cap')) B gr n (l ++ [(id, c)]) (setW wt c 0) vL' (.slice (some ⟨gw, 0, none⟩) n cap) ∧ ∀ k, vL'.ownBlock = some k → vL.ownBlock = some k ∨ w.heap.size ≤ k) ∧ But w (w2.setCell ⟨gr, 0, none⟩ (.slice (some ⟨g', 0, none⟩) (m + 1) cap')) (rfp gr vL (.slice (some ⟨gw, 0, none⟩) n cap))) := Lib.hid (by
    have hgg : ∀ q, (Value.slice (some ⟨g', 0, none⟩) (m + 1) cap').ownBlock = some q → q ≠ gr := fun q hq => by
      obtain ⟨cs, hcs⟩ := own_tg hown' hq
      exact tg_ne hcs hrow2 (by decide)
    obtain ⟨cw, hcw⟩ := own_tg HR.out.wa (g := gw) rfl
    have hwv : ∀ q, vL.ownBlock = some q → q ≠ gw := fun q hq => by
      obtain ⟨cs, hcs⟩ := own_tg HLI.out hq
      exact tg_ne hcs hcw (by decide)
    have hgwl := (Array.getElem?_eq_some_iff.1 hcw).1
    have hgwl' : gw < w.heap.size := by rw [size_set] at hgwl; exact hgwl
    refine ⟨⟨_, ⟨hrow2.set 0 _, ?_, ?_⟩, fun k hk => by
      rcases hat with h1 | h1
      · exact .inl (h1.symm.trans hk)
      · right
        rw [← Option.some.inj (h1.symm.trans hk)]
        omega⟩, ?_⟩
    · rw [flatH_snoc, List.length_append, ← HMM.out]
      exact own_same hown' (fun q hq => heap_setCell_other _ _ _ _ (hgg q hq))
    · refine own_same HR.out.wa (fun q hq => ?_)
      have hq' : q = gw := by cases hq; rfl
      subst hq'
      rw [heap_setCell_other _ _ _ _ (by show q ≠ gr; exact fun e => hgw e.symm), hgrow.block q (by simp; omega) (fun e => hwv q e.symm rfl)]
      exact Below.heap_alloc _ _ q hgwl
    · refine But.set (HBU.out.trans (But.alloc (But.refl _ _) _) (fun _ hk => (hk : False).elim) |>.trans (q := fun k => vL.ownBlock = some k) ⟨hgrow.os, hgrow.tape, hgrow.output, hgrow.size, fun k hk hn => hgrow.block k hk (fun e => hn e.symm)⟩ (fun k hk => .inl (.inr (.inl hk)))) (.inl rfl) _)
  clear hown' hgrow hnil hrow' hrow2 hat
  go_wp2
  go_ret
  exact ⟨rfl, HE.out⟩
end Go.Proofs.Ytgclbeagifoifaa
/- The law's own New. -/
namespace Go.Proofs.Ytgclbeagifoifaa
open Go.RowKit
set_option linter.unusedVariables false
theorem rNew_no (z : Int) (w : World) (h : z < 1 ∨ 64 < z) : Calls Try.prog 7 #[.int .i64 z] w fun e w' => e = .returned (.tuple #[.pointer none, .int .i64 2]) ∧ w = w' := by
  by_cases h1 : z < 1
  · have d1 : decide (z < 1) = true := by simpa using h1
    clear h
    go_enter Try.func7, Try.ntmps7
    go_wp2
    go_ret2
    exact ⟨rfl, rfl⟩
  · have d1 : decide (z < 1) = false := by simpa using h1
    have h2 : 64 < z := by omega
    have d2 : decide (64 < z) = true := by simpa using h2
    clear h
    go_enter Try.func7, Try.ntmps7
    go_wp2
    go_ret2
    exact ⟨rfl, rfl⟩
theorem madeCells_one (z : Value) (n : Nat) : madeCells #[z] n = (List.replicate n z).toArray := by
  apply Array.ext'
  rw [toList_madeCells_one]
set_option maxRecDepth 100000 in
set_option maxHeartbeats 1000000 in
theorem rNew_yes {n : Nat} (w : World) (h1 : 1 ≤ n) (h2 : n ≤ 64) : Calls Try.prog 7 #[.int .i64 (n : Int)] w fun e w' => ∃ gr vW, e = .returned (.tuple #[.pointer (some ⟨gr, 0, none⟩), .int .i64 0]) ∧ RefAt w' w.heap.size gr n [] (fun _ => 0) (.slice none 0 0) vW ∧ w.heap.size ≤ gr ∧ Below w.heap.size w w' := by
  have d1 : decide ((n : Int) < 1) = false := by simp; omega
  have d2 : decide (64 < (n : Int)) = false := by simp; omega
  obtain ⟨i0, hi, hz0, hz1, hz2⟩ := info_parts kinfoAddr
  have hm1 := fun W : World => run_make (P := Try.prog) W 38 34 i0 _ Try.underlying38 hi hz0 .i64 .i64 ((n : Nat) : Int) ((n : Nat) : Int) (by omega) (by omega) (by rw [hz2]; omega) (by omega)
  go_enter Try.func7, Try.ntmps7
  go_wp2
  go_ret2
  refine ⟨w.heap.size + 1, .slice (some ⟨w.heap.size, 0, none⟩) n n, rfl, ⟨?_, ⟨rfl, .inl ⟨rfl, rfl⟩⟩, ?_⟩, by omega, Below.and (alloc_below _ _) (alloc_below _ _)⟩
  · have := Row.new (w.alloc (.cells (madeCells #[.int .u64 0] n) 34)) 40 #[.slice none 0 0, .slice (some ⟨w.heap.size, 0, none⟩) n n]
    simpa using this
  · refine ⟨by simp, .inr ⟨w.heap.size, n, _, rfl, Nat.le_refl _, (Row.new w 34 (madeCells #[.int .u64 0] n)).alloc _, Nat.le_refl _, by unfold maxLen; omega, ?_, ?_⟩⟩
    · rw [madeCells_one]; simp
    · rw [madeCells_one]
      apply List.ext_getElem?
      intro j
      by_cases hj : j < n
      · rw [List.getElem?_take_of_lt (by omega), List.getElem?_map, List.getElem?_range hj]
        simp [List.getElem?_replicate, hj, wv]
      · rw [List.getElem?_eq_none (by simp; omega), List.getElem?_eq_none (by simp; omega)]
end Go.Proofs.Ytgclbeagifoifaa
