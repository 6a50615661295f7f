/- Texts of this claim, packed: 7RDrop. -/
import Derived.Test.YtgclbeagifoifaaPc32
/- The document's Drop: a client has, and waits for, nothing; for any list of few locks, each once. -/
namespace Go.Proofs.Ytgclbeagifoifaa
open Go.RowKit
set_option linter.unusedVariables false
theorem rDrop_no {w : World} {B gr n : Nat} {l : List (Nat × Nat)} {wt : Nat → Nat} {vL vW : Value} (h : RefAt w B gr n l wt vL vW) {c : Int} (hno : ¬ (0 ≤ c ∧ c < (n : Int))) :
    Calls Try.prog 21 #[.pointer (some ⟨gr, 0, none⟩), .int .i64 c] w fun e w' => e = .returned (.tuple #[]) ∧ w = w' := by
  have HI := rIs_any h c
  rw [decide_eq_false hno] at HI
  have HI := Lib.hid HI
  clear h hno
  go_enter Try.func21, Try.ntmps21
  go_wp2_with fail
  refine HI.out.mono ?_
  rintro e w1 ⟨rfl, rfl⟩
  go_wp2
  refine bodyPost_ret (results_none rfl _ _ _) rfl ?_
  exact ⟨rfl, rfl⟩
/-- The list without the first k of those that a client has. -/
def lessL (l : List (Nat × Nat)) (xs : List Nat) (k : Nat) : List (Nat × Nat) := l.filter (fun p => !(xs.take k).contains p.1)
theorem lessL_zero (l : List (Nat × Nat)) (xs : List Nat) : lessL l xs 0 = l := by
  unfold lessL
  exact List.filter_eq_self.2 fun p _ => by simp
theorem lessL_len (l : List (Nat × Nat)) (xs : List Nat) (k : Nat) : (lessL l xs k).length ≤ l.length := List.length_filter_le _ _
theorem lessL_next {l : List (Nat × Nat)} {xs : List Nat} {k x : Nat} (hx : xs[k]? = some x) : (lessL l xs k).filter (fun p => p.1 != x) = lessL l xs (k + 1) := by
  have hl := (List.getElem?_eq_some_iff.1 hx).1
  unfold lessL
  rw [List.filter_filter, List.take_succ_eq_append_getElem hl, (List.getElem?_eq_some_iff.1 hx).2]
  congr 1
  funext p
  by_cases h : p.1 = x <;> simp [h]
theorem lessL_nodup {l : List (Nat × Nat)} (hn : (l.map (·.1)).Nodup) (xs : List Nat) (k : Nat) : ((lessL l xs k).map (·.1)).Nodup := by
  refine List.Nodup.sublist ?_ hn
  exact (List.filter_sublist).map _
theorem lessL_hold {l : List (Nat × Nat)} (hn : (l.map (·.1)).Nodup) {c k x : Nat} (hx : (heldL l c)[k]? = some x) : rHold (lessL l (heldL l c) k) x = (c : Int) := by
  rw [rHold_mem (lessL_nodup hn _ _)]
  unfold lessL
  rw [List.mem_filter]
  refine ⟨(heldL_mem l c x).1 (List.mem_of_getElem? hx), ?_⟩
  have hs := heldL_sorted l c hn
  have hk := (List.getElem?_eq_some_iff.1 hx).1
  have hno : x ∉ (heldL l c).take k := by
    intro hm
    obtain ⟨j, hj, e⟩ := List.mem_take_iff_getElem.1 hm
    have := List.pairwise_iff_getElem.1 hs j k (by omega) hk (by omega)
    have e2 := (List.getElem?_eq_some_iff.1 hx).2
    omega
  simpa using hno
theorem lessL_all {l : List (Nat × Nat)} (hn : (l.map (·.1)).Nodup) (c : Nat) : lessL l (heldL l c) (heldL l c).length = l.filter (fun p => p.2 != c) := by
  unfold lessL
  rw [List.take_length]
  refine List.filter_congr fun p hp => ?_
  have : p.1 ∈ heldL l c ↔ p.2 = c := by
    rw [heldL_mem, ← rHold_mem hn]
    have h1 : rHold l p.1 = (p.2 : Int) := (rHold_mem hn _ _).2 hp
    rw [h1]
    omega
  by_cases h : p.2 = c
  · simp [h, this.2 h]
  · have h2 : p.1 ∉ heldL l c := fun e => h (this.1 e)
    simp [h, h2]
/-- What holds when k of them were given back. -/
structure RDr (w1 wr : World) (B gr n c : Nat) (l : List (Nat × Nat)) (wt : Nat → Nat) (vL vW : Value) (k : Nat) : Prop where
  ex : ∃ wt' vL', RefAt wr B gr n (lessL l (heldL l c) k) wt' vL' vW ∧ (∀ d, d ≠ c → wt' d = wt d) ∧ ∀ b, vL'.ownBlock = some b → vL.ownBlock = some b ∨ w1.heap.size ≤ b
  but : But w1 wr (rfp gr vL vW)
set_option maxRecDepth 100000 in
set_option maxHeartbeats 3200000 in
theorem rDrop_any {w : World} {B gr n : Nat} {l : List (Nat × Nat)} {wt : Nat → Nat} {vL vW : Value} (h : RefAt w B gr n l wt vL vW) (hB : B ≤ w.heap.size) (hl : l.length ≤ 1000) (hn : (l.map (·.1)).Nodup) {c : Nat} (hc : c < n) :
    Calls Try.prog 21 #[.pointer (some ⟨gr, 0, none⟩), .int .i64 (c : Int)] w fun e w' => e = .returned (.tuple #[]) ∧ (∃ vL', RefAt w' B gr n (l.filter (fun p => p.2 != c)) (setW wt c 0) vL' vW ∧ ∀ b, vL'.ownBlock = some b → vL.ownBlock = some b ∨ w.heap.size ≤ b) ∧ But w w' (rfp gr vL vW) := by
  have HI := rIs_any h (c : Int)
  rw [decide_eq_true (show 0 ≤ (c : Int) ∧ (c : Int) < (n : Int) by omega)] at HI
  have HI := Lib.hid HI
  have HG := Lib.hid (rHeld_any h hl c)
  have HH := Lib.hid h
  have HN := Lib.hid hn
  have hql : (heldL l c).length ≤ 1000 := by
    have := heldL_len l c l.length
    rw [List.take_length] at this
    omega
  clear h hn
  go_enter Try.func21, Try.ntmps21
  go_wp2_with fail
  refine HI.out.mono ?_
  rintro e w0 ⟨rfl, rfl⟩
  go_wp2_with fail
  refine HG.out.mono ?_
  rintro e w1 ⟨V, rfl, ho, hb⟩
  obtain ⟨xs, hxs⟩ : ∃ xs, xs = heldL l c := ⟨_, rfl⟩
  obtain ⟨q, hq⟩ : ∃ q, q = xs.length := ⟨_, rfl⟩
  rw [← hxs, ← hq] at ho hql
  have hH1 := HH.out.below hb
  have HOV := Lib.hid ho
  have HXS := Lib.hid hxs
  have HQ := Lib.hid hq
  have HB1 := Lib.hid hb
  have hs1 := hb.size
  obtain ⟨AV, cV, hV⟩ : ∃ AV cV, V = .slice AV q cV := by
    rcases ho.2 with ⟨rfl, h0⟩ | ⟨g, cap, cur, rfl, _⟩
    · exact ⟨none, 0, by rw [h0]⟩
    · exact ⟨_, _, rfl⟩
  subst hV
  have HVC := Lib.hid (show ∀ k, k < q → ∃ g, AV = some ⟨g, 0, none⟩ ∧ w.heap.size ≤ g ∧ g < w1.heap.size ∧ w1.cell? ⟨g, k, none⟩ = some (.int .u64 ((xs.getD k 0 : Nat) : Int)) from fun k hk => by
    have h1 : (xs.map wv)[k]? = some (wv (xs.getD k 0)) := by
      rw [List.getElem?_map, List.getD_eq_getElem?_getD, List.getElem?_eq_getElem (by have := HQ.out; omega)]
      rfl
    rcases HOV.out.2 with ⟨e1, e2⟩ | ⟨g, cap, cur, e1, hg, hh, _⟩
    · omega
    · have e2 : AV = some ⟨g, 0, none⟩ := by injection e1
      have h2 := HOV.out.cells (g := g) (by rw [e2]; rfl) k _ h1
      rw [Addr.add_lit, Nat.zero_add] at h2
      exact ⟨g, e2, hg, (Array.getElem?_eq_some_iff.1 hh).1, h2⟩)
  have HLT := Lib.hid HH.out.lt
  have HR0 := Lib.hid (show RDr w1 w1 B gr n c l wt vL vW 0 from ⟨⟨wt, vL, by rw [lessL_zero]; exact hH1, fun _ _ => rfl, fun b hb => .inl hb⟩, But.refl _ _⟩)
  clear ho hxs hq hb hH1 HI HG
  go_wp2_with fail
  go_loopw [5] (fun i wr => ∃ k : Nat, k ≤ q ∧ i = .int .i64 (k : Int) ∧ RDr w1 wr B gr n c l wt vL vW k) (fun i _ => q - (intOf i).toNat)
  case atStart => exact ⟨0, by omega, rfl, HR0.out⟩
  case round =>
    rename World => wr
    obtain ⟨k, hk, rfl, ⟨wt', vL', hR, hwt, hvl⟩, hbu⟩ := hrel
    have HR := Lib.hid hR
    have HWT := Lib.hid hwt
    have HVL := Lib.hid hvl
    have HBU := Lib.hid hbu
    by_cases hlt : k < q
    · obtain ⟨gv, hA, hg1, hg2, cv⟩ := HVC.out k hlt
      subst hA
      have hxk : xs[k]? = some (xs.getD k 0) := by rw [List.getD_eq_getElem?_getD, List.getElem?_eq_getElem (by have := HQ.out; omega)]; rfl
      obtain ⟨x, hx⟩ : ∃ x, x = xs.getD k 0 := ⟨_, rfl⟩
      rw [← hx] at hxk cv
      have hxk2 : (heldL l c)[k]? = some x := by rw [← HXS.out]; exact hxk
      have cv2 : wr.cell? ⟨gv, k, none⟩ = some (.int .u64 (x : Int)) := hbu.cell cv (fun hf => by have := HLT.out gv hf; omega)
      have HD := lessL_hold HN.out hxk2
      have HY := Lib.hid (rRel_yes hR (by have := hbu.size; omega) (Nat.le_trans (lessL_len _ _ _) hl) hc HD)
      have HNEXT := Lib.hid (lessL_next (l := l) hxk2)
      clear hR hwt hvl hbu cv hx hxk hxk2 HD
      go_wp2_with fail
      refine HY.out.mono ?_
      rintro e w2 ⟨rfl, ⟨vL2, hR2, hv2⟩, hb2⟩
      have HFIN := Lib.hid (show RDr w1 w2 B gr n c l wt vL vW (k + 1) from ⟨⟨_, vL2, by rw [← HNEXT.out]; exact hR2, fun d hd => by
        unfold wrel
        split
        · unfold setW
          rw [if_neg hd]
          exact HWT.out d hd
        · exact HWT.out d hd, fun b hb => .inr (Nat.le_trans HBU.out.size (hv2 b hb))⟩, HBU.out.trans hb2 (fun b hb => by
        rcases hb with rfl | hb | hb
        · exact .inl (.inl rfl)
        · rcases HVL.out b hb with h1 | h1
          · exact .inl (.inr (.inl h1))
          · exact .inr h1
        · exact .inl (.inr (.inr hb)))⟩)
      clear hR2 hv2 hb2
      go_wp2
      exact ⟨⟨k + 1, by omega, by go_num, HFIN.out⟩, by simp [intOf]; omega⟩
    · obtain rfl : k = q := by omega
      obtain ⟨gw, cap, hv, hnc, hm, hcell, hfr, hset⟩ := hR.wset hc
      obtain ⟨hR3, hb3⟩ := hset 0
      have c1 := hR.row.cell 1
      simp only [List.getElem?_toArray, List.getElem?_cons_succ, List.getElem?_cons_zero] at c1
      subst hv
      have HALL := Lib.hid (show lessL l (heldL l c) k = l.filter (fun p => p.2 != c) by rw [HQ.out, HXS.out]; exact lessL_all HN.out c)
      have HFIN := Lib.hid (show (∃ vL', RefAt (wr.setCell ⟨gw, c, none⟩ (.int .u64 0)) B gr n (l.filter (fun p => p.2 != c)) (setW wt c 0) vL' (.slice (some ⟨gw, 0, none⟩) n cap) ∧ ∀ b, vL'.ownBlock = some b → vL.ownBlock = some b ∨ w.heap.size ≤ b) ∧ But w (wr.setCell ⟨gw, c, none⟩ (.int .u64 0)) (rfp gr vL (.slice (some ⟨gw, 0, none⟩) n cap)) from
        ⟨⟨vL', by
          rw [← HALL.out, show setW wt c 0 = setW wt' c 0 from funext fun d => by
            unfold setW
            split
            · rfl
            · rename_i hd
              exact (HWT.out d hd).symm]
          exact hR3, fun b hb => (HVL.out b hb).imp id (fun h1 => Nat.le_trans hs1 h1)⟩, ((But.of_below HB1.out _).trans HBU.out (fun b hb => .inl hb)).trans hb3 (fun b hb => by
          rcases hb with rfl | hb | hb
          · exact .inl (.inl rfl)
          · rcases HVL.out b hb with h1 | h1
            · exact .inl (.inr (.inl h1))
            · exact .inr (Nat.le_trans hs1 h1)
          · exact .inl (.inr (.inr hb)))⟩)
      clear hset hR3 hb3 hR hwt hvl hbu
      go_wp2
      refine bodyPost_end (results_none rfl _ _ _) rfl ?_
      exact ⟨rfl, HFIN.out⟩
end Go.Proofs.Ytgclbeagifoifaa
