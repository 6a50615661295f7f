/- Texts of this claim, packed: 7Locks, 7Held, 7Act, 7Drop. -/
import Derived.Test.YtedefebdfcgjeaaGreatDoorPk49
import Derived.Test.YtedefebdfcgjeaaGreatDoorPk22
import Derived.Test.YtedefebdfcgjeaaGreatDoorPk43
import Derived.Test.YtedefebdfcgjeaaGreatDoorPk37
import Derived.Stop.RegionWithIn
import Derived.Sort.QuietIn
/- The iterator over the locks that a client has: it tells them rising, each once, whatever a round makes of the ones that were told. -/
namespace Go.Proofs.YtedefebdfcgjeaaGreatDoor
open Go.RowKit Go.Shelf Go.Maps
set_option linter.unusedVariables false
attribute [local go_sem] Oper.semAt_some
/-- The locks that a client has, rising. -/
def HeldIs (s : Lk) (c : Nat) (xs : List Nat) : Prop := xs.Pairwise (· < ·) ∧ ∀ id, id ∈ xs ↔ s.hm id = some c
theorem pw_lt7 {l : List Nat} (h1 : l.Pairwise (· ≤ ·)) (h2 : l.Nodup) : l.Pairwise (· < ·) := by
  induction l with
  | nil => exact List.Pairwise.nil
  | cons a t ih =>
    rw [List.pairwise_cons] at h1 ⊢
    rw [List.nodup_cons] at h2
    refine ⟨fun x hx => ?_, ih h1.2 h2.2⟩
    have := h1.1 x hx
    have hne : a ≠ x := fun e => h2.1 (e ▸ hx)
    omega
theorem lt_unique : ∀ {l m : List Nat}, l.Pairwise (· < ·) → m.Pairwise (· < ·) → (∀ x, x ∈ l ↔ x ∈ m) → l = m
  | [], [], _, _, _ => rfl
  | [], b :: m, _, _, h => by have := (h b).2 (by simp); simp at this
  | a :: l, [], _, _, h => by have := (h a).1 (by simp); simp at this
  | a :: l, b :: m, hl, hm, h => by
    rw [List.pairwise_cons] at hl hm
    have e : a = b := by
      have h1 := (h a).1 (by simp)
      have h2 := (h b).2 (by simp)
      rcases List.mem_cons.1 h1 with h1 | h1
      · exact h1
      · rcases List.mem_cons.1 h2 with h2 | h2
        · exact h2.symm
        · have := hl.1 b h2
          have := hm.1 a h1
          omega
    subst e
    congr 1
    refine lt_unique hl.2 hm.2 fun x => ?_
    constructor
    · intro hx
      have := (h x).1 (List.mem_cons_of_mem _ hx)
      rcases List.mem_cons.1 this with e | e
      · subst e
        have := hl.1 x hx
        omega
      · exact e
    · intro hx
      have := (h x).2 (List.mem_cons_of_mem _ hx)
      rcases List.mem_cons.1 this with e | e
      · subst e
        have := hm.1 x hx
        omega
      · exact e
/-- Has the client the lock? -/
def hasB7 (s : Lk) (c : Nat) (id : Nat) : Bool := s.hm id == some c
theorem held_keys {s : Lk} (ok : s.Ok) {c : Nat} {xs ss : List Nat} (hx : HeldIs s c xs) (hk : KeysAre s.hm ss) (hs : ss.Pairwise (· ≤ ·)) : ss.filter (hasB7 s c) = xs := by
  refine lt_unique ((pw_lt7 hs hk.1).filter _) hx.1 fun id => ?_
  rw [List.mem_filter, hx.2 id, hk.2 id]
  unfold hasB7
  constructor
  · rintro ⟨_, h⟩
    simpa using h
  · intro h
    exact ⟨⟨(ok.hc id c h).2, by rw [h]; rfl⟩, by simpa using h⟩
/-- What the iterator must be able to read when it has told k locks. -/
def KReads (W : World) (g b bx bc : Nat) (s : Lk) (c : Nat) (xs : List Nat) (k : Nat) : Prop :=
  W.cell? ⟨bx, 0, none⟩ = some (.pointer (some ⟨g, 0, none⟩)) ∧ W.cell? ⟨bc, 0, none⟩ = some (.int .i64 (c : Int)) ∧
  ∃ s', KAt W g b s' ∧ (∀ id, id ∉ xs → s'.hm id = s.hm id) ∧ ∀ j id, k ≤ j → xs[j]? = some id → s'.hm id = some c
theorem own_from' {w : World} {B n : Nat} {e : TypeId} {v : Value} {xs : List Value} (h : w.ownsRow B e 1 v n xs) (hn : 0 < n) : ∃ (g cap : Nat) (cur : Array Value), v = .slice (some ⟨g, 0, none⟩) n cap ∧ B ≤ g ∧ Row w g e cur ∧ ∀ (i : Nat) (u : Value), xs[i]? = some u → cur[i]? = some u := by
  rcases h.2 with ⟨_, h0⟩ | ⟨g, cap, cur, rfl, hg, hh, hnc, hm, hs, ht⟩
  · omega
  · refine ⟨g, cap, cur, rfl, hg, hh, fun i u hu => ?_⟩
    rw [← ht, List.getElem?_take] at hu
    split at hu
    · simpa using hu
    · cases hu
theorem keys_shape {w : World} {B n : Nat} {e : TypeId} {v : Value} {xs : List Value} (ho : w.ownsRow B e 1 v n xs) (hB : B < w.heap.size) : ∃ (r : Nat) (A : Option Addr) (cap : Nat) (cur : Array Value), v = .slice A n cap ∧ B ≤ r ∧ r < w.heap.size ∧ (0 < n → A = some ⟨r, 0, none⟩ ∧ Row w r e cur ∧ ∀ (i : Nat) (u : Value), xs[i]? = some u → cur[i]? = some u) := by
  by_cases hp : 0 < n
  · obtain ⟨g1, cap, cur, rfl, hg, hR, hc⟩ := own_from' ho hp
    exact ⟨g1, _, cap, cur, rfl, hg, hR.lt, fun _ => ⟨rfl, hR, hc⟩⟩
  · obtain ⟨A, cap, rfl, _⟩ := own_sl ho
    exact ⟨B, A, cap, #[], rfl, Nat.le_refl _, hB, fun h => absurd h hp⟩
set_option maxRecDepth 100000 in
set_option maxHeartbeats 4000000 in
theorem kiter_tells {w : World} {g b : Nat} {s : Lk} (h : KAt w g b s) {c : Nat} (hc : c < s.n) {xs : List Nat} (hx : HeldIs s c xs) (bx bc : Nat) (I : Nat → Nat → World → Prop)
    (hbx : w.cell? ⟨bx, 0, none⟩ = some (.pointer (some ⟨g, 0, none⟩))) (hbc : w.cell? ⟨bc, 0, none⟩ = some (.int .i64 (c : Int)))
    (hI : ∀ r k W, I r k W → KReads W g b bx bc s c xs k) :
    TellsR Fence.wide 5 Tryz.prog 84 #[.pointer (some ⟨bx, 0, none⟩), .pointer (some ⟨bc, 0, none⟩)] encA xs w I := by
  intro l J W hW hJ hY hB h0
  have hK := h.below hW
  have hbox : W.cell? ⟨bx, 0, none⟩ = some (.pointer (some ⟨g, 0, none⟩)) := (hW.cell (p := ⟨bx, 0, none⟩) (block_lt_of_cell hbx)).trans hbx
  have HN := Lib.hid (knone_yes hK)
  have hcm := hK.cm
  have HS := Lib.hid (sorted_any (bm := W.heap.size) (w := W.alloc (.cells #[.map (some b)] 115)) ((Row.new W 115 #[.map (some b)]).cell 0) (hK.below (alloc_below W _)).mp h.ok.zs)
  have HJ := Lib.hid hJ
  have HY := Lib.hid hY
  have HB := Lib.hid hB
  have H0 := Lib.hid h0
  have HI := Lib.hid hI
  have HX := Lib.hid hx
  have HOK := Lib.hid h.ok
  have HMK := Lib.hid (fun m W => mkeys_any m W)
  clear hJ hY h0 hB hI hx hbx hbc h hW
  refine callsIn_of_wp Tryz.func84 rfl trivial ?_ rfl
  simp only [Tryz.ntmps84, List.size_toArray, List.length_cons, List.length_nil, Nat.reduceAdd, Nat.reduceSub, Array.replicate_succ, Array.replicate_zero, List.push_toArray, List.append_toArray, List.nil_append, List.cons_append]
  gi_wp2_with (refine ⟨trivial, ?_⟩; gi_at_call 54; refine (callsIn_wide.2 HN.out).mono ?_; rintro e w' ⟨rfl, rfl⟩)
  gi_wp2_with (refine ⟨trivial, ?_⟩; gi_at_call 86; refine (callsIn_wide.2 (HMK.out _ _)).mono ?_; rintro e w' ⟨rfl, rfl⟩)
  gi_wp2_with (refine ⟨trivial, ?_⟩; gi_at_call 85; refine (callsIn_wide.2 HS.out).mono ?_; rintro e w1 ⟨v, ss, rfl, ho, hk, hso, hb⟩; obtain ⟨r, A, cap, cur, rfl, hr, hr', hrow⟩ := keys_shape (own_mono ho (B' := W.heap.size) (by simp)) (by have := hb.size; simp at this; omega))
  obtain ⟨L, hL⟩ : ∃ L, L = ss.length := ⟨_, rfl⟩
  have hLb : L ≤ 1000000 := by
    have h1 := keys_few hK.mp hk
    have h2 := HOK.out.zs
    omega
  have HF := Lib.hid (held_keys HOK.out HX.out hk hso)
  have HK := Lib.hid hk
  have hb1 : Below W.heap.size W w1 := (alloc_below W _).trans (hb.mono (by simp))
  have HJ0 := Lib.hid (H0.out r w1 hb1 hr hr')
  rw [← hL] at hrow
  have HR := Lib.hid hrow
  have HL := Lib.hid hL
  rw [← hL]
  clear ho hk hso hb hb1 hrow hL HMK HN HS hcm hbox
  gi_wp2
  gi_loopw [15] (fun a wr => ∃ i k : Nat, a = .int .i64 (i : Int) ∧ i ≤ L ∧ J r k wr ∧ (ss.drop i).filter (hasB7 s c) = xs.drop k ∧ k ≤ xs.length ∧ (0 < L → Row wr r 40 cur)) (fun a _ => L - (intOf a).toNat)
  case atStart => exact ⟨0, 0, rfl, Nat.zero_le _, HJ0.out, by rw [List.drop_zero, List.drop_zero]; exact HF.out, Nat.zero_le _, fun h => (HR.out h).2.1⟩
  case round =>
    obtain ⟨i, k, rfl, hi, hJk, hdr, hkx, hRw⟩ := hrel
    rename World => wr
    have HJk := Lib.hid hJk
    have HDR := Lib.hid hdr
    have HRW := Lib.hid hRw
    clear hJk hdr hRw
    by_cases hlt : i < L
    · have hp : 0 < L := by omega
      obtain ⟨hA, _, hcur⟩ := HR.out hp
      subst hA
      have hil : i < ss.length := by rw [← HL.out]; exact hlt
      obtain ⟨id, hid⟩ : ∃ id, id = ss[i] := ⟨_, rfl⟩
      have hidm : id ∈ ss := by rw [hid]; exact List.getElem_mem hil
      obtain ⟨hid1, hid2⟩ := (HK.out.2 id).1 hidm
      have hcell : wr.cell? ⟨r, i, none⟩ = some (.int .u64 (id : Int)) := by
        rw [(HRW.out hp).cell]
        exact hcur i _ (by rw [List.getElem?_map, List.getElem?_eq_getElem hil, ← hid]; rfl)
      obtain ⟨hrx, hrc, s', hK', hno, hyes⟩ := HI.out r k wr (HJ.out r k wr HJk.out)
      have hcm' := hK'.cm
      have hlook : (Instr.lookup 115 (.map (some b)) (.int .u64 (id : Int)) false).run Tryz.prog wr.drew = .ok (hV (s'.hm id)) wr.drew := has_look (hK'.below (drew_below wr)).mp hid1
      have hdrop : ss.drop i = id :: ss.drop (i + 1) := by rw [List.drop_eq_getElem_cons hil, ← hid]
      clear hcur hid hidm
      by_cases hh : hasB7 s c id = true
      · have hxd : xs.drop k = id :: (ss.drop (i + 1)).filter (hasB7 s c) := by
          rw [← HDR.out, hdrop, List.filter_cons, if_pos hh]
        have hkl : k < xs.length := by
          by_cases e : k < xs.length
          · exact e
          · rw [List.drop_eq_nil_of_le (by omega)] at hxd; cases hxd
        have hxk : xs[k]? = some id := by
          have : (xs.drop k)[0]? = some id := by rw [hxd]; rfl
          rw [List.getElem?_drop] at this
          simpa using this
        have hxd2 : (ss.drop (i + 1)).filter (hasB7 s c) = xs.drop (k + 1) := by
          have : (xs.drop k).tail = xs.drop (k + 1) := by simp
          rw [← this, hxd]
          rfl
        have hsc := hyes k id (Nat.le_refl _) hxk
        rw [hsc, hV_some] at hlook
        have HXK := Lib.hid hxk
        have HXD := Lib.hid hxd2
        have HK' := Lib.hid hK'
        clear hno hyes hxd hxd2 hdrop hsc hh hK' hxk
        have HJ2 := Lib.hid (HB.out r k _ _ HJk.out (drew_below wr))
        have HRW2 : Hid (0 < L → Row wr.drew r 40 cur) := Lib.hid (fun h => (HRW.out h).below (drew_below wr) (HRW.out h).lt)
        obtain ⟨fn, tmps, assign, body, hy, hR⟩ := HY.out r k id wr.drew HXK.out HJ2.out
        unfold encA at hy
        have e5 : (5 : Nat) - 1 = 4 := rfl
        rw [e5] at hR
        clear e5
        gi_wp2
        refine wpIn_region_any (by kernel_rfl) ?_
        change wpAnyIn _ _ _ _ _ _ _ _ _ (World.drew _)
        refine wpAnyIn_take (i := 4) (oi := ⟨some 23, _, _, _, _, _⟩) (v := .int .u64 (id : Int)) rfl rfl (by kernel_rfl) (by kernel_rfl) (by kernel_rfl) (fun _ _ _ h => h) ⟨Or.inl ⟨by kernel_rfl, by intro w; go_simp⟩, fun _ => rfl⟩ ?_
        simp only [Act.put, List.setIfInBounds_toArray, List.set_cons_zero, List.set_cons_succ]
        refine wpAnyIn_ready (rs := [0, 6]) (by kernel_rfl) (by simp) ?_
        refine AllReadyIn.cons rfl (fun K hK => ?_) (AllReadyIn.cons rfl (fun K hK => ?_) AllReadyIn.nil)
        · skip
          go_simp
          refine hK _ _ ?_
          clear hK K
          refine wpAnyIn_take (i := 1) (oi := ⟨some 20, _, _, _, _, _⟩) (v := .pointer (some ⟨g, 0, none⟩)) rfl rfl (by kernel_rfl) (by kernel_rfl) (by kernel_rfl) (fun _ _ _ h => h) ⟨Or.inl ⟨by kernel_rfl, by intro w; go_simp⟩, fun _ => rfl⟩ ?_
          simp only [Act.put, List.setIfInBounds_toArray, List.set_cons_zero, List.set_cons_succ]
          refine wpAnyIn_take (i := 2) (oi := ⟨some 21, _, _, _, _, _⟩) (v := .pointer (some ⟨g, 1, none⟩)) rfl rfl (by kernel_rfl) (by kernel_rfl) (by kernel_rfl) (fun _ _ _ h => h) ⟨Or.inl ⟨by kernel_rfl, by intro w; go_simp⟩, fun _ => rfl⟩ ?_
          simp only [Act.put, List.setIfInBounds_toArray, List.set_cons_zero, List.set_cons_succ]
          refine wpAnyIn_ready (rs := [3, 6]) (by kernel_rfl) (by simp) ?_
          refine AllReadyIn.cons rfl (fun K hK => ?_) (AllReadyIn.cons rfl (fun K hK => ?_) AllReadyIn.nil)
          · skip
            go_simp
            refine hK _ _ ?_
            clear hK K
            refine wpAnyIn_ready (rs := [5, 6]) (by kernel_rfl) (by simp) ?_
            refine AllReadyIn.cons rfl (fun K hK => ?_) (AllReadyIn.cons rfl (fun K hK => ?_) AllReadyIn.nil)
            · skip
              go_simp
              refine hK _ _ ?_
              clear hK K
              refine wpAnyIn_ready (rs := [6]) (by kernel_rfl) (by simp) ?_
              refine AllReadyIn.cons rfl (fun K hK => ?_) AllReadyIn.nil
              go_simp
              refine hK _ _ ?_
              clear hK K
              refine wpAnyIn_take (i := 7) (oi := ⟨some 26, _, _, _, _, _⟩) (v := .bool true) rfl rfl (by kernel_rfl) (by kernel_rfl) (by kernel_rfl) (fun _ _ _ h => h) ⟨Or.inl ⟨by kernel_rfl, by intro w; go_simp⟩, fun _ => rfl⟩ ?_
              simp only [Act.put, List.setIfInBounds_toArray, List.set_cons_zero, List.set_cons_succ]
              refine wpAnyIn_take (i := 8) (oi := ⟨some 27, _, _, _, _, _⟩) (v := .bool true) rfl rfl (by kernel_rfl) (by kernel_rfl) (by kernel_rfl) (fun _ _ _ h => h) ⟨Or.inl ⟨by kernel_rfl, by intro w; go_simp⟩, fun _ => rfl⟩ ?_
              simp only [Act.put, List.setIfInBounds_toArray, List.set_cons_zero, List.set_cons_succ]
              refine wpAnyIn_take (i := 9) (oi := ⟨some 28, _, _, _, _, _⟩) (v := .func (.yield l) #[] #[]) rfl rfl (by kernel_rfl) (by kernel_rfl) (by kernel_rfl) (fun _ _ _ h => h) ⟨Or.inl ⟨by kernel_rfl, by intro w; go_simp⟩, fun _ => rfl⟩ ?_
              simp only [Act.put, List.setIfInBounds_toArray, List.set_cons_zero, List.set_cons_succ]
              refine wpAnyIn_take (i := 10) (oi := ⟨some 29, _, _, _, _, _⟩) (v := .int .u64 (id : Int)) rfl rfl (by kernel_rfl) (by kernel_rfl) (by kernel_rfl) (fun _ _ _ h => h) ⟨Or.inl ⟨by kernel_rfl, by intro w; go_simp⟩, fun _ => rfl⟩ ?_
              simp only [Act.put, List.setIfInBounds_toArray, List.set_cons_zero, List.set_cons_succ]
              refine wpAnyIn_ready (rs := [11]) (by kernel_rfl) (by simp) ?_
              refine AllReadyIn.cons rfl (fun K hK => ?_) AllReadyIn.nil
              go_simp
              refine hR.mono ?_
              rintro e W3 ⟨rfl, hJ3, hr3⟩
              have HJ3 := Lib.hid hJ3
              have HRW3 : Hid (0 < L → Row W3 r 40 cur) := Lib.hid (fun h => hr3 _ (HRW2.out h))
              clear hJ3 hr3
              go_simp
              refine hK _ _ ?_
              clear hK K
              refine wpAnyIn_take (i := 12) (oi := ⟨some 31, _, _, _, _, _⟩) (v := .bool false) rfl rfl (by kernel_rfl) (by kernel_rfl) (by kernel_rfl) (fun _ _ _ h => h) ⟨Or.inl ⟨by kernel_rfl, by intro w; go_simp⟩, fun _ => rfl⟩ ?_
              simp only [Act.put, List.setIfInBounds_toArray, List.set_cons_zero, List.set_cons_succ]
              refine wpAnyIn_take (i := 13) (oi := ⟨some 32, _, _, _, _, _⟩) (v := .bool false) rfl rfl (by kernel_rfl) (by kernel_rfl) (by kernel_rfl) (fun _ _ _ h => h) ⟨Or.inl ⟨by kernel_rfl, by intro w; go_simp⟩, fun _ => rfl⟩ ?_
              simp only [Act.put, List.setIfInBounds_toArray, List.set_cons_zero, List.set_cons_succ]
              refine wpAnyIn_done (by kernel_rfl) ?_ _
              gi_wp2
              go_roundw
              case rel => exact ⟨i + 1, k + 1, by go_num, by omega, HJ3.out, HXD.out, by omega, HRW3.out⟩
              case measure => simp [intOf]; omega
            · skip
              go_simp
              refine hK _ _ ?_
              clear hK K
              refine wpAnyIn_ready (rs := [5]) (by kernel_rfl) (by simp) ?_
              refine AllReadyIn.cons rfl (fun K hK => ?_) AllReadyIn.nil
              go_simp
              refine hK _ _ ?_
              clear hK K
              refine wpAnyIn_take (i := 7) (oi := ⟨some 26, _, _, _, _, _⟩) (v := .bool true) rfl rfl (by kernel_rfl) (by kernel_rfl) (by kernel_rfl) (fun _ _ _ h => h) ⟨Or.inl ⟨by kernel_rfl, by intro w; go_simp⟩, fun _ => rfl⟩ ?_
              simp only [Act.put, List.setIfInBounds_toArray, List.set_cons_zero, List.set_cons_succ]
              refine wpAnyIn_take (i := 8) (oi := ⟨some 27, _, _, _, _, _⟩) (v := .bool true) rfl rfl (by kernel_rfl) (by kernel_rfl) (by kernel_rfl) (fun _ _ _ h => h) ⟨Or.inl ⟨by kernel_rfl, by intro w; go_simp⟩, fun _ => rfl⟩ ?_
              simp only [Act.put, List.setIfInBounds_toArray, List.set_cons_zero, List.set_cons_succ]
              refine wpAnyIn_take (i := 9) (oi := ⟨some 28, _, _, _, _, _⟩) (v := .func (.yield l) #[] #[]) rfl rfl (by kernel_rfl) (by kernel_rfl) (by kernel_rfl) (fun _ _ _ h => h) ⟨Or.inl ⟨by kernel_rfl, by intro w; go_simp⟩, fun _ => rfl⟩ ?_
              simp only [Act.put, List.setIfInBounds_toArray, List.set_cons_zero, List.set_cons_succ]
              refine wpAnyIn_take (i := 10) (oi := ⟨some 29, _, _, _, _, _⟩) (v := .int .u64 (id : Int)) rfl rfl (by kernel_rfl) (by kernel_rfl) (by kernel_rfl) (fun _ _ _ h => h) ⟨Or.inl ⟨by kernel_rfl, by intro w; go_simp⟩, fun _ => rfl⟩ ?_
              simp only [Act.put, List.setIfInBounds_toArray, List.set_cons_zero, List.set_cons_succ]
              refine wpAnyIn_ready (rs := [11]) (by kernel_rfl) (by simp) ?_
              refine AllReadyIn.cons rfl (fun K hK => ?_) AllReadyIn.nil
              go_simp
              refine hR.mono ?_
              rintro e W3 ⟨rfl, hJ3, hr3⟩
              have HJ3 := Lib.hid hJ3
              have HRW3 : Hid (0 < L → Row W3 r 40 cur) := Lib.hid (fun h => hr3 _ (HRW2.out h))
              clear hJ3 hr3
              go_simp
              refine hK _ _ ?_
              clear hK K
              refine wpAnyIn_take (i := 12) (oi := ⟨some 31, _, _, _, _, _⟩) (v := .bool false) rfl rfl (by kernel_rfl) (by kernel_rfl) (by kernel_rfl) (fun _ _ _ h => h) ⟨Or.inl ⟨by kernel_rfl, by intro w; go_simp⟩, fun _ => rfl⟩ ?_
              simp only [Act.put, List.setIfInBounds_toArray, List.set_cons_zero, List.set_cons_succ]
              refine wpAnyIn_take (i := 13) (oi := ⟨some 32, _, _, _, _, _⟩) (v := .bool false) rfl rfl (by kernel_rfl) (by kernel_rfl) (by kernel_rfl) (fun _ _ _ h => h) ⟨Or.inl ⟨by kernel_rfl, by intro w; go_simp⟩, fun _ => rfl⟩ ?_
              simp only [Act.put, List.setIfInBounds_toArray, List.set_cons_zero, List.set_cons_succ]
              refine wpAnyIn_done (by kernel_rfl) ?_ _
              gi_wp2
              go_roundw
              case rel => exact ⟨i + 1, k + 1, by go_num, by omega, HJ3.out, HXD.out, by omega, HRW3.out⟩
              case measure => simp [intOf]; omega
          · skip
            go_simp
            refine hK _ _ ?_
            clear hK K
            refine wpAnyIn_ready (rs := [3]) (by kernel_rfl) (by simp) ?_
            refine AllReadyIn.cons rfl (fun K hK => ?_) AllReadyIn.nil
            go_simp
            refine hK _ _ ?_
            clear hK K
            refine wpAnyIn_ready (rs := [5]) (by kernel_rfl) (by simp) ?_
            refine AllReadyIn.cons rfl (fun K hK => ?_) AllReadyIn.nil
            go_simp
            refine hK _ _ ?_
            clear hK K
            refine wpAnyIn_take (i := 7) (oi := ⟨some 26, _, _, _, _, _⟩) (v := .bool true) rfl rfl (by kernel_rfl) (by kernel_rfl) (by kernel_rfl) (fun _ _ _ h => h) ⟨Or.inl ⟨by kernel_rfl, by intro w; go_simp⟩, fun _ => rfl⟩ ?_
            simp only [Act.put, List.setIfInBounds_toArray, List.set_cons_zero, List.set_cons_succ]
            refine wpAnyIn_take (i := 8) (oi := ⟨some 27, _, _, _, _, _⟩) (v := .bool true) rfl rfl (by kernel_rfl) (by kernel_rfl) (by kernel_rfl) (fun _ _ _ h => h) ⟨Or.inl ⟨by kernel_rfl, by intro w; go_simp⟩, fun _ => rfl⟩ ?_
            simp only [Act.put, List.setIfInBounds_toArray, List.set_cons_zero, List.set_cons_succ]
            refine wpAnyIn_take (i := 9) (oi := ⟨some 28, _, _, _, _, _⟩) (v := .func (.yield l) #[] #[]) rfl rfl (by kernel_rfl) (by kernel_rfl) (by kernel_rfl) (fun _ _ _ h => h) ⟨Or.inl ⟨by kernel_rfl, by intro w; go_simp⟩, fun _ => rfl⟩ ?_
            simp only [Act.put, List.setIfInBounds_toArray, List.set_cons_zero, List.set_cons_succ]
            refine wpAnyIn_take (i := 10) (oi := ⟨some 29, _, _, _, _, _⟩) (v := .int .u64 (id : Int)) rfl rfl (by kernel_rfl) (by kernel_rfl) (by kernel_rfl) (fun _ _ _ h => h) ⟨Or.inl ⟨by kernel_rfl, by intro w; go_simp⟩, fun _ => rfl⟩ ?_
            simp only [Act.put, List.setIfInBounds_toArray, List.set_cons_zero, List.set_cons_succ]
            refine wpAnyIn_ready (rs := [11]) (by kernel_rfl) (by simp) ?_
            refine AllReadyIn.cons rfl (fun K hK => ?_) AllReadyIn.nil
            go_simp
            refine hR.mono ?_
            rintro e W3 ⟨rfl, hJ3, hr3⟩
            have HJ3 := Lib.hid hJ3
            have HRW3 : Hid (0 < L → Row W3 r 40 cur) := Lib.hid (fun h => hr3 _ (HRW2.out h))
            clear hJ3 hr3
            go_simp
            refine hK _ _ ?_
            clear hK K
            refine wpAnyIn_take (i := 12) (oi := ⟨some 31, _, _, _, _, _⟩) (v := .bool false) rfl rfl (by kernel_rfl) (by kernel_rfl) (by kernel_rfl) (fun _ _ _ h => h) ⟨Or.inl ⟨by kernel_rfl, by intro w; go_simp⟩, fun _ => rfl⟩ ?_
            simp only [Act.put, List.setIfInBounds_toArray, List.set_cons_zero, List.set_cons_succ]
            refine wpAnyIn_take (i := 13) (oi := ⟨some 32, _, _, _, _, _⟩) (v := .bool false) rfl rfl (by kernel_rfl) (by kernel_rfl) (by kernel_rfl) (fun _ _ _ h => h) ⟨Or.inl ⟨by kernel_rfl, by intro w; go_simp⟩, fun _ => rfl⟩ ?_
            simp only [Act.put, List.setIfInBounds_toArray, List.set_cons_zero, List.set_cons_succ]
            refine wpAnyIn_done (by kernel_rfl) ?_ _
            gi_wp2
            go_roundw
            case rel => exact ⟨i + 1, k + 1, by go_num, by omega, HJ3.out, HXD.out, by omega, HRW3.out⟩
            case measure => simp [intOf]; omega
        · skip
          go_simp
          refine hK _ _ ?_
          clear hK K
          refine wpAnyIn_ready (rs := [0]) (by kernel_rfl) (by simp) ?_
          refine AllReadyIn.cons rfl (fun K hK => ?_) AllReadyIn.nil
          go_simp
          refine hK _ _ ?_
          clear hK K
          refine wpAnyIn_take (i := 1) (oi := ⟨some 20, _, _, _, _, _⟩) (v := .pointer (some ⟨g, 0, none⟩)) rfl rfl (by kernel_rfl) (by kernel_rfl) (by kernel_rfl) (fun _ _ _ h => h) ⟨Or.inl ⟨by kernel_rfl, by intro w; go_simp⟩, fun _ => rfl⟩ ?_
          simp only [Act.put, List.setIfInBounds_toArray, List.set_cons_zero, List.set_cons_succ]
          refine wpAnyIn_take (i := 2) (oi := ⟨some 21, _, _, _, _, _⟩) (v := .pointer (some ⟨g, 1, none⟩)) rfl rfl (by kernel_rfl) (by kernel_rfl) (by kernel_rfl) (fun _ _ _ h => h) ⟨Or.inl ⟨by kernel_rfl, by intro w; go_simp⟩, fun _ => rfl⟩ ?_
          simp only [Act.put, List.setIfInBounds_toArray, List.set_cons_zero, List.set_cons_succ]
          refine wpAnyIn_ready (rs := [3]) (by kernel_rfl) (by simp) ?_
          refine AllReadyIn.cons rfl (fun K hK => ?_) AllReadyIn.nil
          go_simp
          refine hK _ _ ?_
          clear hK K
          refine wpAnyIn_ready (rs := [5]) (by kernel_rfl) (by simp) ?_
          refine AllReadyIn.cons rfl (fun K hK => ?_) AllReadyIn.nil
          go_simp
          refine hK _ _ ?_
          clear hK K
          refine wpAnyIn_take (i := 7) (oi := ⟨some 26, _, _, _, _, _⟩) (v := .bool true) rfl rfl (by kernel_rfl) (by kernel_rfl) (by kernel_rfl) (fun _ _ _ h => h) ⟨Or.inl ⟨by kernel_rfl, by intro w; go_simp⟩, fun _ => rfl⟩ ?_
          simp only [Act.put, List.setIfInBounds_toArray, List.set_cons_zero, List.set_cons_succ]
          refine wpAnyIn_take (i := 8) (oi := ⟨some 27, _, _, _, _, _⟩) (v := .bool true) rfl rfl (by kernel_rfl) (by kernel_rfl) (by kernel_rfl) (fun _ _ _ h => h) ⟨Or.inl ⟨by kernel_rfl, by intro w; go_simp⟩, fun _ => rfl⟩ ?_
          simp only [Act.put, List.setIfInBounds_toArray, List.set_cons_zero, List.set_cons_succ]
          refine wpAnyIn_take (i := 9) (oi := ⟨some 28, _, _, _, _, _⟩) (v := .func (.yield l) #[] #[]) rfl rfl (by kernel_rfl) (by kernel_rfl) (by kernel_rfl) (fun _ _ _ h => h) ⟨Or.inl ⟨by kernel_rfl, by intro w; go_simp⟩, fun _ => rfl⟩ ?_
          simp only [Act.put, List.setIfInBounds_toArray, List.set_cons_zero, List.set_cons_succ]
          refine wpAnyIn_take (i := 10) (oi := ⟨some 29, _, _, _, _, _⟩) (v := .int .u64 (id : Int)) rfl rfl (by kernel_rfl) (by kernel_rfl) (by kernel_rfl) (fun _ _ _ h => h) ⟨Or.inl ⟨by kernel_rfl, by intro w; go_simp⟩, fun _ => rfl⟩ ?_
          simp only [Act.put, List.setIfInBounds_toArray, List.set_cons_zero, List.set_cons_succ]
          refine wpAnyIn_ready (rs := [11]) (by kernel_rfl) (by simp) ?_
          refine AllReadyIn.cons rfl (fun K hK => ?_) AllReadyIn.nil
          go_simp
          refine hR.mono ?_
          rintro e W3 ⟨rfl, hJ3, hr3⟩
          have HJ3 := Lib.hid hJ3
          have HRW3 : Hid (0 < L → Row W3 r 40 cur) := Lib.hid (fun h => hr3 _ (HRW2.out h))
          clear hJ3 hr3
          go_simp
          refine hK _ _ ?_
          clear hK K
          refine wpAnyIn_take (i := 12) (oi := ⟨some 31, _, _, _, _, _⟩) (v := .bool false) rfl rfl (by kernel_rfl) (by kernel_rfl) (by kernel_rfl) (fun _ _ _ h => h) ⟨Or.inl ⟨by kernel_rfl, by intro w; go_simp⟩, fun _ => rfl⟩ ?_
          simp only [Act.put, List.setIfInBounds_toArray, List.set_cons_zero, List.set_cons_succ]
          refine wpAnyIn_take (i := 13) (oi := ⟨some 32, _, _, _, _, _⟩) (v := .bool false) rfl rfl (by kernel_rfl) (by kernel_rfl) (by kernel_rfl) (fun _ _ _ h => h) ⟨Or.inl ⟨by kernel_rfl, by intro w; go_simp⟩, fun _ => rfl⟩ ?_
          simp only [Act.put, List.setIfInBounds_toArray, List.set_cons_zero, List.set_cons_succ]
          refine wpAnyIn_done (by kernel_rfl) ?_ _
          gi_wp2
          go_roundw
          case rel => exact ⟨i + 1, k + 1, by go_num, by omega, HJ3.out, HXD.out, by omega, HRW3.out⟩
          case measure => simp [intOf]; omega
      · have hne : s.hm id ≠ some c := fun e => hh (by unfold hasB7; rw [e]; simp)
        have hnx : id ∉ xs := fun e => hne ((HX.out.2 id).1 e)
        obtain ⟨c', hc'⟩ : ∃ c', s.hm id = some c' := Option.isSome_iff_exists.1 hid2
        have hcc : c' ≠ c := fun e => hne (by rw [hc', e])
        rw [hno id hnx, hc', hV_some] at hlook
        have hneb := nat_ne' hcc
        have hnx2 : (ss.drop (i + 1)).filter (hasB7 s c) = xs.drop k := by
          rw [← HDR.out, hdrop, List.filter_cons, if_neg hh]
        have HNX := Lib.hid hnx2
        clear hno hyes hdrop hne hnx hc' hcc hnx2 hh hid2
        have HJ2 := Lib.hid (HB.out r k _ _ HJk.out (drew_below wr))
        have HRW2 : Hid (0 < L → Row wr.drew r 40 cur) := Lib.hid (fun h => (HRW.out h).below (drew_below wr) (HRW.out h).lt)
        gi_wp2
        refine wpIn_region_any (by kernel_rfl) ?_
        change wpAnyIn _ _ _ _ _ _ _ _ _ (World.drew _)
        refine wpAnyIn_take (i := 4) (oi := ⟨some 23, _, _, _, _, _⟩) (v := .int .u64 (id : Int)) rfl rfl (by kernel_rfl) (by kernel_rfl) (by kernel_rfl) (fun _ _ _ h => h) ⟨Or.inl ⟨by kernel_rfl, by intro w; go_simp⟩, fun _ => rfl⟩ ?_
        simp only [Act.put, List.setIfInBounds_toArray, List.set_cons_zero, List.set_cons_succ]
        refine wpAnyIn_ready (rs := [0, 6]) (by kernel_rfl) (by simp) ?_
        refine AllReadyIn.cons rfl (fun K hK => ?_) (AllReadyIn.cons rfl (fun K hK => ?_) AllReadyIn.nil)
        · skip
          go_simp
          refine hK _ _ ?_
          clear hK K
          refine wpAnyIn_take (i := 1) (oi := ⟨some 20, _, _, _, _, _⟩) (v := .pointer (some ⟨g, 0, none⟩)) rfl rfl (by kernel_rfl) (by kernel_rfl) (by kernel_rfl) (fun _ _ _ h => h) ⟨Or.inl ⟨by kernel_rfl, by intro w; go_simp⟩, fun _ => rfl⟩ ?_
          simp only [Act.put, List.setIfInBounds_toArray, List.set_cons_zero, List.set_cons_succ]
          refine wpAnyIn_take (i := 2) (oi := ⟨some 21, _, _, _, _, _⟩) (v := .pointer (some ⟨g, 1, none⟩)) rfl rfl (by kernel_rfl) (by kernel_rfl) (by kernel_rfl) (fun _ _ _ h => h) ⟨Or.inl ⟨by kernel_rfl, by intro w; go_simp⟩, fun _ => rfl⟩ ?_
          simp only [Act.put, List.setIfInBounds_toArray, List.set_cons_zero, List.set_cons_succ]
          refine wpAnyIn_ready (rs := [3, 6]) (by kernel_rfl) (by simp) ?_
          refine AllReadyIn.cons rfl (fun K hK => ?_) (AllReadyIn.cons rfl (fun K hK => ?_) AllReadyIn.nil)
          · skip
            go_simp
            refine hK _ _ ?_
            clear hK K
            refine wpAnyIn_ready (rs := [5, 6]) (by kernel_rfl) (by simp) ?_
            refine AllReadyIn.cons rfl (fun K hK => ?_) (AllReadyIn.cons rfl (fun K hK => ?_) AllReadyIn.nil)
            · skip
              go_simp
              refine hK _ _ ?_
              clear hK K
              refine wpAnyIn_ready (rs := [6]) (by kernel_rfl) (by simp) ?_
              refine AllReadyIn.cons rfl (fun K hK => ?_) AllReadyIn.nil
              go_simp
              refine hK _ _ ?_
              clear hK K
              refine wpAnyIn_take (i := 7) (oi := ⟨some 26, _, _, _, _, _⟩) (v := .bool false) rfl rfl (by kernel_rfl) (by kernel_rfl) (by kernel_rfl) (fun _ _ _ h => h) ⟨Or.inl ⟨by kernel_rfl, by intro w; go_simp⟩, fun _ => rfl⟩ ?_
              simp only [Act.put, List.setIfInBounds_toArray, List.set_cons_zero, List.set_cons_succ]
              refine wpAnyIn_take (i := 8) (oi := ⟨some 27, _, _, _, _, _⟩) (v := .bool false) rfl rfl (by kernel_rfl) (by kernel_rfl) (by kernel_rfl) (fun _ _ _ h => h) ⟨Or.inl ⟨by kernel_rfl, by intro w; go_simp⟩, fun _ => rfl⟩ ?_
              simp only [Act.put, List.setIfInBounds_toArray, List.set_cons_zero, List.set_cons_succ]
              refine wpAnyIn_take (i := 9) (oi := ⟨some 28, _, _, _, _, _⟩) (v := undef) rfl rfl (by kernel_rfl) (by kernel_rfl) (by kernel_rfl) (fun _ _ _ h => h) ⟨Or.inr ⟨by kernel_rfl, rfl⟩, fun _ => rfl⟩ ?_
              simp only [Act.put, List.setIfInBounds_toArray, List.set_cons_zero, List.set_cons_succ]
              refine wpAnyIn_take (i := 10) (oi := ⟨some 29, _, _, _, _, _⟩) (v := undef) rfl rfl (by kernel_rfl) (by kernel_rfl) (by kernel_rfl) (fun _ _ _ h => h) ⟨Or.inr ⟨by kernel_rfl, rfl⟩, fun _ => rfl⟩ ?_
              simp only [Act.put, List.setIfInBounds_toArray, List.set_cons_zero, List.set_cons_succ]
              refine wpAnyIn_take (i := 11) (oi := ⟨some 30, _, _, _, _, _⟩) (v := undef) rfl rfl (by kernel_rfl) (by kernel_rfl) (by kernel_rfl) (fun _ _ _ h => h) ⟨Or.inr ⟨by kernel_rfl, rfl⟩, fun _ => rfl⟩ ?_
              simp only [Act.put, List.setIfInBounds_toArray, List.set_cons_zero, List.set_cons_succ]
              refine wpAnyIn_take (i := 12) (oi := ⟨some 31, _, _, _, _, _⟩) (v := undef) rfl rfl (by kernel_rfl) (by kernel_rfl) (by kernel_rfl) (fun _ _ _ h => h) ⟨Or.inr ⟨by kernel_rfl, rfl⟩, fun _ => rfl⟩ ?_
              simp only [Act.put, List.setIfInBounds_toArray, List.set_cons_zero, List.set_cons_succ]
              refine wpAnyIn_take (i := 13) (oi := ⟨some 32, _, _, _, _, _⟩) (v := .bool false) rfl rfl (by kernel_rfl) (by kernel_rfl) (by kernel_rfl) (fun _ _ _ h => h) ⟨Or.inl ⟨by kernel_rfl, by intro w; go_simp⟩, fun _ => rfl⟩ ?_
              simp only [Act.put, List.setIfInBounds_toArray, List.set_cons_zero, List.set_cons_succ]
              refine wpAnyIn_done (by kernel_rfl) ?_ _
              gi_wp2
              go_roundw
              case rel => exact ⟨i + 1, k, by go_num, by omega, HJ2.out, HNX.out, hkx, HRW2.out⟩
              case measure => simp [intOf]; omega
            · skip
              go_simp
              refine hK _ _ ?_
              clear hK K
              refine wpAnyIn_ready (rs := [5]) (by kernel_rfl) (by simp) ?_
              refine AllReadyIn.cons rfl (fun K hK => ?_) AllReadyIn.nil
              go_simp
              refine hK _ _ ?_
              clear hK K
              refine wpAnyIn_take (i := 7) (oi := ⟨some 26, _, _, _, _, _⟩) (v := .bool false) rfl rfl (by kernel_rfl) (by kernel_rfl) (by kernel_rfl) (fun _ _ _ h => h) ⟨Or.inl ⟨by kernel_rfl, by intro w; go_simp⟩, fun _ => rfl⟩ ?_
              simp only [Act.put, List.setIfInBounds_toArray, List.set_cons_zero, List.set_cons_succ]
              refine wpAnyIn_take (i := 8) (oi := ⟨some 27, _, _, _, _, _⟩) (v := .bool false) rfl rfl (by kernel_rfl) (by kernel_rfl) (by kernel_rfl) (fun _ _ _ h => h) ⟨Or.inl ⟨by kernel_rfl, by intro w; go_simp⟩, fun _ => rfl⟩ ?_
              simp only [Act.put, List.setIfInBounds_toArray, List.set_cons_zero, List.set_cons_succ]
              refine wpAnyIn_take (i := 9) (oi := ⟨some 28, _, _, _, _, _⟩) (v := undef) rfl rfl (by kernel_rfl) (by kernel_rfl) (by kernel_rfl) (fun _ _ _ h => h) ⟨Or.inr ⟨by kernel_rfl, rfl⟩, fun _ => rfl⟩ ?_
              simp only [Act.put, List.setIfInBounds_toArray, List.set_cons_zero, List.set_cons_succ]
              refine wpAnyIn_take (i := 10) (oi := ⟨some 29, _, _, _, _, _⟩) (v := undef) rfl rfl (by kernel_rfl) (by kernel_rfl) (by kernel_rfl) (fun _ _ _ h => h) ⟨Or.inr ⟨by kernel_rfl, rfl⟩, fun _ => rfl⟩ ?_
              simp only [Act.put, List.setIfInBounds_toArray, List.set_cons_zero, List.set_cons_succ]
              refine wpAnyIn_take (i := 11) (oi := ⟨some 30, _, _, _, _, _⟩) (v := undef) rfl rfl (by kernel_rfl) (by kernel_rfl) (by kernel_rfl) (fun _ _ _ h => h) ⟨Or.inr ⟨by kernel_rfl, rfl⟩, fun _ => rfl⟩ ?_
              simp only [Act.put, List.setIfInBounds_toArray, List.set_cons_zero, List.set_cons_succ]
              refine wpAnyIn_take (i := 12) (oi := ⟨some 31, _, _, _, _, _⟩) (v := undef) rfl rfl (by kernel_rfl) (by kernel_rfl) (by kernel_rfl) (fun _ _ _ h => h) ⟨Or.inr ⟨by kernel_rfl, rfl⟩, fun _ => rfl⟩ ?_
              simp only [Act.put, List.setIfInBounds_toArray, List.set_cons_zero, List.set_cons_succ]
              refine wpAnyIn_take (i := 13) (oi := ⟨some 32, _, _, _, _, _⟩) (v := .bool false) rfl rfl (by kernel_rfl) (by kernel_rfl) (by kernel_rfl) (fun _ _ _ h => h) ⟨Or.inl ⟨by kernel_rfl, by intro w; go_simp⟩, fun _ => rfl⟩ ?_
              simp only [Act.put, List.setIfInBounds_toArray, List.set_cons_zero, List.set_cons_succ]
              refine wpAnyIn_done (by kernel_rfl) ?_ _
              gi_wp2
              go_roundw
              case rel => exact ⟨i + 1, k, by go_num, by omega, HJ2.out, HNX.out, hkx, HRW2.out⟩
              case measure => simp [intOf]; omega
          · skip
            go_simp
            refine hK _ _ ?_
            clear hK K
            refine wpAnyIn_ready (rs := [3]) (by kernel_rfl) (by simp) ?_
            refine AllReadyIn.cons rfl (fun K hK => ?_) AllReadyIn.nil
            go_simp
            refine hK _ _ ?_
            clear hK K
            refine wpAnyIn_ready (rs := [5]) (by kernel_rfl) (by simp) ?_
            refine AllReadyIn.cons rfl (fun K hK => ?_) AllReadyIn.nil
            go_simp
            refine hK _ _ ?_
            clear hK K
            refine wpAnyIn_take (i := 7) (oi := ⟨some 26, _, _, _, _, _⟩) (v := .bool false) rfl rfl (by kernel_rfl) (by kernel_rfl) (by kernel_rfl) (fun _ _ _ h => h) ⟨Or.inl ⟨by kernel_rfl, by intro w; go_simp⟩, fun _ => rfl⟩ ?_
            simp only [Act.put, List.setIfInBounds_toArray, List.set_cons_zero, List.set_cons_succ]
            refine wpAnyIn_take (i := 8) (oi := ⟨some 27, _, _, _, _, _⟩) (v := .bool false) rfl rfl (by kernel_rfl) (by kernel_rfl) (by kernel_rfl) (fun _ _ _ h => h) ⟨Or.inl ⟨by kernel_rfl, by intro w; go_simp⟩, fun _ => rfl⟩ ?_
            simp only [Act.put, List.setIfInBounds_toArray, List.set_cons_zero, List.set_cons_succ]
            refine wpAnyIn_take (i := 9) (oi := ⟨some 28, _, _, _, _, _⟩) (v := undef) rfl rfl (by kernel_rfl) (by kernel_rfl) (by kernel_rfl) (fun _ _ _ h => h) ⟨Or.inr ⟨by kernel_rfl, rfl⟩, fun _ => rfl⟩ ?_
            simp only [Act.put, List.setIfInBounds_toArray, List.set_cons_zero, List.set_cons_succ]
            refine wpAnyIn_take (i := 10) (oi := ⟨some 29, _, _, _, _, _⟩) (v := undef) rfl rfl (by kernel_rfl) (by kernel_rfl) (by kernel_rfl) (fun _ _ _ h => h) ⟨Or.inr ⟨by kernel_rfl, rfl⟩, fun _ => rfl⟩ ?_
            simp only [Act.put, List.setIfInBounds_toArray, List.set_cons_zero, List.set_cons_succ]
            refine wpAnyIn_take (i := 11) (oi := ⟨some 30, _, _, _, _, _⟩) (v := undef) rfl rfl (by kernel_rfl) (by kernel_rfl) (by kernel_rfl) (fun _ _ _ h => h) ⟨Or.inr ⟨by kernel_rfl, rfl⟩, fun _ => rfl⟩ ?_
            simp only [Act.put, List.setIfInBounds_toArray, List.set_cons_zero, List.set_cons_succ]
            refine wpAnyIn_take (i := 12) (oi := ⟨some 31, _, _, _, _, _⟩) (v := undef) rfl rfl (by kernel_rfl) (by kernel_rfl) (by kernel_rfl) (fun _ _ _ h => h) ⟨Or.inr ⟨by kernel_rfl, rfl⟩, fun _ => rfl⟩ ?_
            simp only [Act.put, List.setIfInBounds_toArray, List.set_cons_zero, List.set_cons_succ]
            refine wpAnyIn_take (i := 13) (oi := ⟨some 32, _, _, _, _, _⟩) (v := .bool false) rfl rfl (by kernel_rfl) (by kernel_rfl) (by kernel_rfl) (fun _ _ _ h => h) ⟨Or.inl ⟨by kernel_rfl, by intro w; go_simp⟩, fun _ => rfl⟩ ?_
            simp only [Act.put, List.setIfInBounds_toArray, List.set_cons_zero, List.set_cons_succ]
            refine wpAnyIn_done (by kernel_rfl) ?_ _
            gi_wp2
            go_roundw
            case rel => exact ⟨i + 1, k, by go_num, by omega, HJ2.out, HNX.out, hkx, HRW2.out⟩
            case measure => simp [intOf]; omega
        · skip
          go_simp
          refine hK _ _ ?_
          clear hK K
          refine wpAnyIn_ready (rs := [0]) (by kernel_rfl) (by simp) ?_
          refine AllReadyIn.cons rfl (fun K hK => ?_) AllReadyIn.nil
          go_simp
          refine hK _ _ ?_
          clear hK K
          refine wpAnyIn_take (i := 1) (oi := ⟨some 20, _, _, _, _, _⟩) (v := .pointer (some ⟨g, 0, none⟩)) rfl rfl (by kernel_rfl) (by kernel_rfl) (by kernel_rfl) (fun _ _ _ h => h) ⟨Or.inl ⟨by kernel_rfl, by intro w; go_simp⟩, fun _ => rfl⟩ ?_
          simp only [Act.put, List.setIfInBounds_toArray, List.set_cons_zero, List.set_cons_succ]
          refine wpAnyIn_take (i := 2) (oi := ⟨some 21, _, _, _, _, _⟩) (v := .pointer (some ⟨g, 1, none⟩)) rfl rfl (by kernel_rfl) (by kernel_rfl) (by kernel_rfl) (fun _ _ _ h => h) ⟨Or.inl ⟨by kernel_rfl, by intro w; go_simp⟩, fun _ => rfl⟩ ?_
          simp only [Act.put, List.setIfInBounds_toArray, List.set_cons_zero, List.set_cons_succ]
          refine wpAnyIn_ready (rs := [3]) (by kernel_rfl) (by simp) ?_
          refine AllReadyIn.cons rfl (fun K hK => ?_) AllReadyIn.nil
          go_simp
          refine hK _ _ ?_
          clear hK K
          refine wpAnyIn_ready (rs := [5]) (by kernel_rfl) (by simp) ?_
          refine AllReadyIn.cons rfl (fun K hK => ?_) AllReadyIn.nil
          go_simp
          refine hK _ _ ?_
          clear hK K
          refine wpAnyIn_take (i := 7) (oi := ⟨some 26, _, _, _, _, _⟩) (v := .bool false) rfl rfl (by kernel_rfl) (by kernel_rfl) (by kernel_rfl) (fun _ _ _ h => h) ⟨Or.inl ⟨by kernel_rfl, by intro w; go_simp⟩, fun _ => rfl⟩ ?_
          simp only [Act.put, List.setIfInBounds_toArray, List.set_cons_zero, List.set_cons_succ]
          refine wpAnyIn_take (i := 8) (oi := ⟨some 27, _, _, _, _, _⟩) (v := .bool false) rfl rfl (by kernel_rfl) (by kernel_rfl) (by kernel_rfl) (fun _ _ _ h => h) ⟨Or.inl ⟨by kernel_rfl, by intro w; go_simp⟩, fun _ => rfl⟩ ?_
          simp only [Act.put, List.setIfInBounds_toArray, List.set_cons_zero, List.set_cons_succ]
          refine wpAnyIn_take (i := 9) (oi := ⟨some 28, _, _, _, _, _⟩) (v := undef) rfl rfl (by kernel_rfl) (by kernel_rfl) (by kernel_rfl) (fun _ _ _ h => h) ⟨Or.inr ⟨by kernel_rfl, rfl⟩, fun _ => rfl⟩ ?_
          simp only [Act.put, List.setIfInBounds_toArray, List.set_cons_zero, List.set_cons_succ]
          refine wpAnyIn_take (i := 10) (oi := ⟨some 29, _, _, _, _, _⟩) (v := undef) rfl rfl (by kernel_rfl) (by kernel_rfl) (by kernel_rfl) (fun _ _ _ h => h) ⟨Or.inr ⟨by kernel_rfl, rfl⟩, fun _ => rfl⟩ ?_
          simp only [Act.put, List.setIfInBounds_toArray, List.set_cons_zero, List.set_cons_succ]
          refine wpAnyIn_take (i := 11) (oi := ⟨some 30, _, _, _, _, _⟩) (v := undef) rfl rfl (by kernel_rfl) (by kernel_rfl) (by kernel_rfl) (fun _ _ _ h => h) ⟨Or.inr ⟨by kernel_rfl, rfl⟩, fun _ => rfl⟩ ?_
          simp only [Act.put, List.setIfInBounds_toArray, List.set_cons_zero, List.set_cons_succ]
          refine wpAnyIn_take (i := 12) (oi := ⟨some 31, _, _, _, _, _⟩) (v := undef) rfl rfl (by kernel_rfl) (by kernel_rfl) (by kernel_rfl) (fun _ _ _ h => h) ⟨Or.inr ⟨by kernel_rfl, rfl⟩, fun _ => rfl⟩ ?_
          simp only [Act.put, List.setIfInBounds_toArray, List.set_cons_zero, List.set_cons_succ]
          refine wpAnyIn_take (i := 13) (oi := ⟨some 32, _, _, _, _, _⟩) (v := .bool false) rfl rfl (by kernel_rfl) (by kernel_rfl) (by kernel_rfl) (fun _ _ _ h => h) ⟨Or.inl ⟨by kernel_rfl, by intro w; go_simp⟩, fun _ => rfl⟩ ?_
          simp only [Act.put, List.setIfInBounds_toArray, List.set_cons_zero, List.set_cons_succ]
          refine wpAnyIn_done (by kernel_rfl) ?_ _
          gi_wp2
          go_roundw
          case rel => exact ⟨i + 1, k, by go_num, by omega, HJ2.out, HNX.out, hkx, HRW2.out⟩
          case measure => simp [intOf]; omega
    · obtain rfl : i = L := by omega
      have hxe : k = xs.length := by
        have := HDR.out
        rw [HL.out, List.drop_length] at this
        have h2 := congrArg List.length this
        simp at h2
        omega
      subst hxe
      gi_wp2
      go_end0
      exact ⟨⟨_, rfl⟩, r, HJk.out⟩
end Go.Proofs.YtedefebdfcgjeaaGreatDoor
/- Held: the locks that a client has, rising, in new memory; for any table and client. -/
namespace Go.Proofs.YtedefebdfcgjeaaGreatDoor
open Go.RowKit Go.Shelf Go.Maps
set_option linter.unusedVariables false
attribute [local go_sem] Oper.semAt_some
theorem own_cells {w : World} {B n g : Nat} {e : TypeId} {v : Value} {xs : List Value} (h : w.ownsRow B e 1 v n xs) (hg : v.ownBlock = some g) : ∃ cs t, w.heap[g]? = some (.cells cs t (0, 0)) := by
  rcases h.2 with ⟨rfl, _⟩ | ⟨g', cap, cur, rfl, _, hh, _⟩
  · cases hg
  · have : g' = g := by injection hg
    subst this
    exact ⟨_, _, hh⟩
theorem own_grown7 {w w' : World} {B n : Nat} {e : TypeId} {v : Value} {xs : List Value} {row : Option Nat} (h : w.ownsRow B e 1 v n xs) (hg : w.grownBy w' row) (hr : ∀ q, row = some q → ∃ o : Obj, w.heap[q]? = some o ∧ o.isCells = false) : w'.ownsRow B e 1 v n xs := by
  refine ⟨h.1, ?_⟩
  rcases h.2 with h0 | ⟨g, cap, cur, rfl, hb, hh, hrest⟩
  · exact .inl h0
  · refine .inr ⟨g, cap, cur, rfl, hb, (hg.block g (Array.getElem?_eq_some_iff.1 hh).1 ?_).trans hh, hrest⟩
    intro e
    obtain ⟨o, ho, hc⟩ := hr g e.symm
    rw [hh] at ho
    cases ho
    cases hc
/-- What holds when k locks were appended; the block r is the iterator's. -/
def HdI (w : World) (g : Nat) (c : Nat) (xs : List Nat) (r k : Nat) (W : World) : Prop :=
  r < W.heap.size ∧ w.heap.size + 3 ≤ r ∧ Below w.heap.size w W ∧ Row W (w.heap.size + 1) 53 #[.pointer (some ⟨g, 0, none⟩)] ∧ Row W (w.heap.size + 1 + 1) 3 #[.int .i64 (c : Int)] ∧
  ∃ v, Boxed W w.heap.size 38 v ∧ W.ownsRow (r + 1) 40 1 v k ((xs.take k).map wv)
theorem hdi_stay {w : World} {g c : Nat} {xs : List Nat} (r k : Nat) (W W' : World) (row : Option Nat) (h : HdI w g c xs r k W) (hg : W.grownBy W' row)
    (hr : ∀ q, row = some q → w.heap.size + 3 ≤ q ∧ ∃ o : Obj, W.heap[q]? = some o ∧ o.isCells = false) : HdI w g c xs r k W' := by
  obtain ⟨h1, h2, h3, h4, h5, v, h6, h7⟩ := h
  refine ⟨Nat.lt_of_lt_of_le h1 hg.size, h2, h3.trans ⟨hg.os, hg.tape, hg.output, hg.size, fun q hq => hg.block q (Nat.lt_of_lt_of_le hq h3.size) (fun e => by have := (hr q e.symm).1; omega)⟩,
    h4.grown hg (fun e => by have := (hr _ e.symm).1; omega), h5.grown hg (fun e => by have := (hr _ e.symm).1; omega), v, h6.kept hg (fun e => by have := (hr _ e.symm).1; omega), own_grown7 h7 hg (fun q e => (hr q e).2)⟩
def HeldPost (w : World) (xs : List Nat) (e : Ending) (w' : World) : Prop := ∃ v, e = .returned v ∧ w'.ownsRow w.heap.size 40 1 v xs.length (xs.map wv) ∧ Below w.heap.size w w'
set_option maxRecDepth 100000 in
set_option maxHeartbeats 2000000 in
theorem held_any {w : World} {g b : Nat} {s : Lk} (h : KAt w g b s) {c : Nat} (hc : c < s.n) {xs : List Nat} (hx : HeldIs s c xs) :
    Calls Tryz.prog 24 #[.pointer (some ⟨g, 0, none⟩), .int .i64 (c : Int)] w (HeldPost w xs) := by
  have hxl : xs.length ≤ 1000000 := by
    obtain ⟨D, hown, hkk, hs, ha⟩ := h.mp
    have h1 : (xs.map akey).Nodup := by
      rw [List.nodup_iff_pairwise_ne, List.pairwise_map]
      exact hx.1.imp (fun hlt e => by have := akey_inj e; omega)
    obtain ⟨es, rfl, hp, hl⟩ := hown.entries akeyed
    have h2 : xs.map akey ⊆ es.map Prod.fst := by
      intro k hk'
      obtain ⟨id, hid, rfl⟩ := List.mem_map.1 hk'
      have a1 := (hx.2 id).1 hid
      have h3 : Maps.has (.map es) (akey id) = true := by rw [hs id (h.ok.hc id c a1).2, a1]; rfl
      rw [Maps.has_eq, List.any_eq_true] at h3
      obtain ⟨p, hp', he⟩ := h3
      exact List.mem_map.2 ⟨p, hp', WideAt.sameKey_eq he⟩
    have h3 := List.Nodup.length_le_of_subset h1 h2
    simp only [List.length_map] at h3
    have h4 : Maps.size (DataW.map es : DataW Unit) = es.length := by simp [Maps.size_eq]
    have h5 := hown.size_le
    have h6 := h.ok.zs
    omega
  obtain ⟨i0, hi, hz0, hz1, hz2⟩ := info_parts kinfoAddr
  refine (callsIn_wide (n := 6)).1 ?_
  refine callsIn_of_wp_marks Tryz.func24 rfl trivial ?_ rfl
  simp only [Tryz.ntmps24, List.size_toArray, List.length_cons, List.length_nil, Nat.reduceAdd, Nat.reduceSub, Array.replicate_succ, Array.replicate_zero, List.push_toArray, List.append_toArray, List.nil_append, List.cons_append]
  gi_wp2_with (refine ⟨trivial, ?_⟩; gi_at_call 57; refine (callsIn_wide.2 (locks_any _ _ _)).mono ?_; rintro e w' ⟨rfl, rfl⟩)
  obtain ⟨W0, hW0⟩ : ∃ W0, W0 = (((w.alloc (.cells #[.slice none 0 0] 38)).alloc (.cells #[.pointer (some ⟨g, 0, none⟩)] 53)).alloc (.cells #[.int .i64 (c : Int)] 3)) := ⟨_, rfl⟩
  rw [← hW0]
  have hsz : W0.heap.size = w.heap.size + 3 := by rw [hW0]; simp
  have hb0 : Below w.heap.size w W0 := by
    rw [hW0]
    exact Below.and (Below.and (alloc_below _ _) (alloc_below _ _)) (alloc_below _ _)
  have r1 : Boxed W0 w.heap.size 38 (.slice none 0 0) := by
    rw [hW0]
    exact ((Boxed.new _ _ _).alloc _).alloc _
  have r3 : Row W0 (w.heap.size + 1) 53 #[.pointer (some ⟨g, 0, none⟩)] := by
    rw [hW0]
    refine Row.alloc ?_ _
    have := Row.new (w.alloc (.cells #[.slice none 0 0] 38)) 53 #[.pointer (some ⟨g, 0, none⟩)]
    simpa using this
  have r4 : Row W0 (w.heap.size + 1 + 1) 3 #[.int .i64 (c : Int)] := by
    rw [hW0]
    have := Row.new ((w.alloc (.cells #[.slice none 0 0] 38)).alloc (.cells #[.pointer (some ⟨g, 0, none⟩)] 53)) 3 #[.int .i64 (c : Int)]
    simpa using this
  have hm0 := h.below hb0
  have HM := Lib.hid h
  have HX := Lib.hid hx
  clear hW0 h hx
  refine range_allR rfl (by omega) (gf := 84) (lb := #[.pointer (some ⟨w.heap.size + 1, 0, none⟩), .pointer (some ⟨w.heap.size + 1 + 1, 0, none⟩)]) rfl trivial (enters_of Tryz.func84 (by kernel_rfl) rfl) xs (encs := encA) (fun _ => rfl) (HdI w g c xs)
    (fun r k W W' row hI hg hr => hdi_stay r k W W' row hI hg (fun q e => by obtain ⟨a1, _, a2⟩ := hr q e; exact ⟨by omega, a2⟩))
    (fun r W hb hr hr' => ⟨hr', by omega, hb0.trans (hb.mono hb0.size), r3.below hb r3.lt, r4.below hb r4.lt, _, (hb.block _ r1.lt).trans r1, World.ownsRow_nil _ _ _ _⟩)
    (kiter_tells hm0 hc HX.out (w.heap.size + 1) (w.heap.size + 1 + 1) _ (r3.cell 0) (r4.cell 0) ?reads)
    (fun x => { tmps := #[.pointer (some ⟨g, 0, none⟩), .int .i64 (c : Int), undef, undef, .slice none 0 0, .pointer (some ⟨w.heap.size, 0, none⟩), .int .u64 (x : Int), .pointer (some ⟨g, 0, none⟩), .int .i64 (c : Int),
      .func (.func 84) #[] #[.pointer (some ⟨w.heap.size + 1, 0, none⟩), .pointer (some ⟨w.heap.size + 1 + 1, 0, none⟩)], .int .u64 (x : Int), undef, undef, undef, undef, undef], defers := [] }) ?assign ?body ?done
  case reads =>
    rintro r k W ⟨_, _, hb, h4, h5, _⟩
    exact ⟨h4.cell 0, h5.cell 0, s, HM.out.below hb, fun _ _ => rfl, fun j id _ hj => (HX.out.2 id).1 (List.mem_of_getElem? hj)⟩
  case assign =>
    intro l x W K hK
    dsimp only [encA]
    gi_wp2
    exact hK
  case body =>
    rintro l r k x W hx hr2 ⟨h1, h2, hb, h4, h5, v, hv, hown⟩
    have hkl := (List.getElem?_eq_some_iff.1 hx).1
    have hsn : (xs.take (k + 1)).map wv = (xs.take k).map wv ++ [wv x] := by
      rw [List.take_succ_eq_append_getElem hkl, List.map_append, (List.getElem?_eq_some_iff.1 hx).2]
      rfl
    have HS := Lib.hid hsn
    have hc := hv.cell
    have a1 : k + 1 ≤ maxLen := by unfold maxLen; omega
    have a2 : (k + 1) * 8 ≤ 140737488355328 := by omega
    have H4 := Lib.hid h4
    have H5 := Lib.hid h5
    have HB := Lib.hid hb
    have HOWN := Lib.hid hown
    clear hsn hx hkl r1 r3 r4 hm0 hb0 h4 h5 hb
    gi_wp2_with (gi_at_builtin; refine wpListIn_append_own _ rfl _ _ 38 rfl (r + 1) 40 i0 (.int .u64 0) 1 8 Tryz.underlying38 hi hz0 hz1 hz2 rfl (by decide) _ k _ rfl (hown.alloc _) ⟨W.heap.size, 0, none⟩ 1 1 [.int .u64 (x : Int)] rfl rfl (cell_one_new _ _ _) (by simp [Value.oneCell']) a1 a2 (by simp; omega) ?_; intro v' w1 hown' hgrow _; obtain ⟨g', cap', rfl⟩ := ownsRow_succ hown'; obtain ⟨hc1, hf1⟩ : w1.cell? ⟨w.heap.size, 0, none⟩ = some v ∧ w1.frozen? ⟨w.heap.size, 0, none⟩ = false := ⟨((hv.alloc _).kept hgrow (hv.not_row (by decide) hown)).cell, ((hv.alloc _).kept hgrow (hv.not_row (by decide) hown)).frozen⟩)
    have hv1 := (hv.alloc (.cells #[.int .u64 (x : Int)] 40)).kept hgrow (hv.not_row (by decide) HOWN.out)
    have hob := own_from HOWN.out
    have hsz1 := hgrow.size
    have hge' : r + 1 ≤ g' := own_from hown' g' rfl
    have hall : ∀ q, q < W.heap.size → some q ≠ v.ownBlock → q ≠ w.heap.size → (w1.setCell ⟨w.heap.size, 0, none⟩ (.slice (some ⟨g', 0, none⟩) (k + 1) cap')).heap[q]? = W.heap[q]? := fun q hq hn hn' => by
      rw [heap_setCell_other _ _ _ _ (by show q ≠ w.heap.size; exact hn'), hgrow.block q (by simp; omega) hn]
      exact Below.heap_alloc W _ q hq
    have hne' : some w.heap.size ≠ (Value.slice (some ⟨g', 0, none⟩) (k + 1) cap').ownBlock := fun e => by have e2 : w.heap.size = g' := by { injection e }; omega
    have hrn : ∀ q, q ≤ r → some q ≠ v.ownBlock := fun q hq e => by have := hob q e.symm; omega
    refine ⟨⟨?_, ?_⟩, ⟨?_, h2, ?_, ?_, ?_, _, hv1.set _, ?_⟩, ?_⟩
    · simp [World.setCell] at hsz1 ⊢
      omega
    · intro q o hq ho hcl
      have hql := (Array.getElem?_eq_some_iff.1 ho).1
      rw [hall q hql (fun e => by obtain ⟨cs, t, h5⟩ := own_cells HOWN.out e.symm; rw [h5] at ho; cases ho; cases hcl) (by omega)]
      exact ho
    · simp [World.setCell] at hsz1 ⊢
      omega
    · exact ((HB.out.alloc (by omega) _).grown hgrow (by simp; omega) (fun q hq => by have := hob q hq; omega)).setCell (Nat.le_refl _) _
    · exact (hall _ (by omega) (hrn _ (by omega)) (by omega)).trans H4.out
    · exact (hall _ (by omega) (hrn _ (by omega)) (by omega)).trans H5.out
    · rw [HS.out]
      exact own_set hown' (p := ⟨w.heap.size, 0, none⟩) hne' _
    · rw [hall r h1 (hrn r (Nat.le_refl _)) (by omega)]
      exact Array.getElem?_eq_getElem h1
  case done =>
    rintro D r W hD hI hK
    obtain ⟨_, h2, hb, _, _, v, hv, hown⟩ := hI
    have hc := hv.cell
    rw [List.take_length] at hown
    clear r1 r3 r4 hm0 hb0
    gi_wp2
    refine ⟨by simp, .inl ⟨_, _, rfl, run_takeDeferred hK, ?_⟩⟩
    exact ⟨_, results_tmp rfl _ _ _, v, rfl, own_mono (own_grown7 hown (grownBy_putObj' W D (.deferred none)) (fun q e => by cases e; exact ⟨_, hK, rfl⟩)) (by omega), hb.trans (belowK_b (w := w) (Nat.le_refl _) W D _ _ (by omega) hK rfl rfl)⟩
end Go.Proofs.YtedefebdfcgjeaaGreatDoor
/- Try, Release, Held at any number and address; the law's list of acts as it lies in memory. -/
namespace Go.Proofs.YtedefebdfcgjeaaGreatDoor
open Go.RowKit
set_option linter.unusedVariables false
def tryR (s : Lk) (c : Int) (id : Nat) : Bool := isC s c && decide (id ≠ 0) && tryB s c.toNat id
def tryT (s : Lk) (c : Int) (id : Nat) : Lk := if isC s c = true ∧ id ≠ 0 then tryS s c.toNat id else s
def relR (s : Lk) (c : Int) (id : Nat) : Bool := isC s c && decide (id ≠ 0) && relB s c.toNat id
def relT (s : Lk) (c : Int) (id : Nat) : Lk := if isC s c = true ∧ id ≠ 0 then relS s c.toNat id else s
theorem tryT_n (s : Lk) (c : Int) (id : Nat) : (tryT s c id).n = s.n := by unfold tryT; split <;> simp [tryS_n]
theorem tryT_sz (s : Lk) (c : Int) (id : Nat) : (tryT s c id).sz ≤ s.sz + 1 := by unfold tryT; split; exact tryS_sz _ _ _; omega
theorem relT_n (s : Lk) (c : Int) (id : Nat) : (relT s c id).n = s.n := by unfold relT; split <;> rfl
theorem relT_sz (s : Lk) (c : Int) (id : Nat) : (relT s c id).sz = s.sz := by unfold relT; split <;> rfl
theorem but_same (w : World) (fp : Nat → Prop) : But w w fp := But.refl w fp
theorem try_all {w : World} {g b : Nat} {s : Lk} (h : KAt w g b s) (c : Int) {id : Nat} (hi : id < 18446744073709551616) (hz : s.sz < 1000000) :
    Calls Tryz.prog 21 #[.pointer (some ⟨g, 0, none⟩), .int .i64 c, .int .u64 (id : Int)] w (KPost w g b (tryR s c id) (tryT s c id)) := by
  by_cases hc : isC s c = true
  · obtain ⟨k, rfl, hk⟩ := isC_of hc
    by_cases h0 : id = 0
    · subst h0
      refine (try_zero h hk).mono ?_
      rintro e w' ⟨rfl, rfl⟩
      exact ⟨by simp [tryR], by simpa [tryT] using h, But.refl _ _⟩
    · have := try_any h hk h0 hi hz
      simpa [tryR, tryT, hc, h0] using this
  · have hcf : isC s c = false := by simpa using hc
    have hI := kis_any h c
    rw [hcf] at hI
    refine (try_out (id := id) hI).mono ?_
    rintro e w' ⟨rfl, rfl⟩
    exact ⟨by simp [tryR, hcf], by simpa [tryT, hcf] using h, But.refl _ _⟩
theorem try_cases {s : Lk} (ok : s.Ok) (c : Int) (id : Nat) :
    (∃ k : Nat, c = (k : Int) ∧ tryR s c id = true ∧ (tryT s c id).hm id = some k ∧ (s.hm id = none ∨ s.hm id = some k)) ∨
    (tryR s c id = false ∧ s.hm id = none ∧ (tryT s c id).hm id = none) ∨
    (∃ h, tryR s c id = false ∧ s.hm id = some h ∧ (tryT s c id).hm id = some h) := by
  by_cases hc : isC s c = true
  · obtain ⟨k, rfl, hk⟩ := isC_of hc
    by_cases h0 : id = 0
    · subst h0
      refine .inr (.inl ⟨by simp [tryR], ok.h0, by simpa [tryT] using ok.h0⟩)
    · have e1 : tryR s (k : Int) id = tryB s k id := by simp [tryR, hc, h0]
      have e2 : tryT s (k : Int) id = tryS s k id := by simp [tryT, hc, h0]
      rw [e1, e2]
      by_cases hb : tryB s k id = true
      · refine .inl ⟨k, rfl, hb, by simp [tryS, hb, setH], ?_⟩
        unfold tryB at hb
        cases h : s.hm id with
        | none => exact .inl rfl
        | some d => rw [h] at hb; simp at hb; exact .inr (by rw [hb])
      · cases h : s.hm id with
        | none => exact absurd (by simp [tryB, h]) hb
        | some d => exact .inr (.inr ⟨d, by simpa using hb, rfl, by simp [tryS, hb, h]⟩)
  · have hcf : isC s c = false := by simpa using hc
    have e1 : tryR s c id = false := by simp [tryR, hcf]
    have e2 : tryT s c id = s := by simp [tryT, hcf]
    rw [e1, e2]
    cases h : s.hm id with
    | none => exact .inr (.inl ⟨rfl, rfl, rfl⟩)
    | some d => exact .inr (.inr ⟨d, rfl, rfl, rfl⟩)
theorem rel_cases {s : Lk} (ok : s.Ok) (c : Int) (id : Nat) :
    (relR s c id = false ∧ s.hm id = none) ∨ (∃ h : Nat, s.hm id = some h ∧ relR s c id = ((h : Int) == c)) := by
  cases h : s.hm id with
  | none =>
    refine .inl ⟨?_, rfl⟩
    simp [relR, relB, h]
  | some d =>
    refine .inr ⟨d, rfl, ?_⟩
    have h0 : id ≠ 0 := fun e => by rw [e, ok.h0] at h; cases h
    have hd := (ok.hc id d h).1
    by_cases hc : isC s c = true
    · obtain ⟨k, rfl, hk⟩ := isC_of hc
      rw [Bool.eq_iff_iff]
      simp [relR, relB, h, hc, h0]
      omega
    · have hcf : isC s c = false := by simpa using hc
      have : ¬ (d : Int) = c := fun e => by subst e; rw [isC_yes hd] at hcf; cases hcf
      have e2 : ((d : Int) == c) = false := by simp [this]
      rw [e2]
      simp [relR, hcf]
theorem held_ex {s : Lk} (ok : s.Ok) (c : Nat) : ∃ xs, HeldIs s c xs := by
  refine ⟨(List.range 18446744073709551616).filter (fun id => s.hm id == some c), ?_, fun id => ?_⟩
  · exact List.pairwise_lt_range.filter _
  · rw [List.mem_filter, List.mem_range]
    constructor
    · rintro ⟨_, h⟩
      simpa using h
    · intro h
      exact ⟨(ok.hc id c h).2, by simpa using h⟩
/-- An act: what to do, for whom, of which lock. -/
structure Ac where
  k : Int
  c : Int
  id : Nat
def acAt (l : List Ac) (i : Nat) : Ac := l.getD i ⟨0, 0, 0⟩
structure ActsAt (w : World) (a : Addr) (l : List Ac) : Prop where
  c0 : ∀ i, i < l.length → w.cell? (a.add (i * 3)) = some (.int .i64 (acAt l i).k)
  c1 : ∀ i, i < l.length → w.cell? ⟨(a.add (i * 3)).block, (a.add (i * 3)).off + 1, none⟩ = some (.int .i64 (acAt l i).c)
  c2 : ∀ i, i < l.length → w.cell? ⟨(a.add (i * 3)).block, (a.add (i * 3)).off + 2, none⟩ = some (.int .u64 ((acAt l i).id : Int))
  fit : ∀ i, i < l.length → (acAt l i).id < 18446744073709551616
theorem ActsAt.below {w w' : World} {a : Addr} {l : List Ac} (h : ActsAt w a l) (hb : Below w.heap.size w w') : ActsAt w' a l :=
  ⟨fun i hi => (hb.cell (w.block_lt_of_cell? _ (h.c0 i hi))).trans (h.c0 i hi), fun i hi => (hb.cell (w.block_lt_of_cell? _ (h.c1 i hi))).trans (h.c1 i hi),
    fun i hi => (hb.cell (w.block_lt_of_cell? _ (h.c2 i hi))).trans (h.c2 i hi), h.fit⟩
/-- The slice (A, n, cap) holds the acts l. -/
def ActsIn (w : World) (A : Option Addr) (n cap : Nat) (l : List Ac) : Prop := l.length = n ∧ n ≤ cap ∧ n ≤ maxLen ∧ (0 < l.length → ∃ ga, A = some ga ∧ ActsAt w ga l)
end Go.Proofs.YtedefebdfcgjeaaGreatDoor
/- Drop: takes all locks from a client; for any table and client. -/
namespace Go.Proofs.YtedefebdfcgjeaaGreatDoor
open Go.RowKit Go.Shelf Go.Maps
set_option linter.unusedVariables false
attribute [local go_sem] Oper.semAt_some
/-- The locks when a client waits for nothing and has lost those of a list. -/
def dmS (s : Lk) (c : Nat) (l : List Nat) : Lk := ⟨s.n, fun id => if id ∈ l then none else s.hm id, setW s.wt c 0, s.sz⟩
def dropS (s : Lk) (c : Nat) : Lk := ⟨s.n, fun id => if s.hm id = some c then none else s.hm id, setW s.wt c 0, s.sz⟩
theorem drop_ok {s : Lk} (h : s.Ok) (c : Nat) {hm' : Nat → Option Nat} (hs : ∀ id d, hm' id = some d → s.hm id = some d) : Lk.Ok ⟨s.n, hm', setW s.wt c 0, s.sz⟩ := by
  refine ⟨h.n1, h.n2, ?_, fun id d e => h.hc id d (hs id d e), fun d => ?_, fun d hd => ?_, fun d hd he => ?_, h.zs⟩
  · show hm' 0 = none
    cases e : hm' 0 with
    | none => rfl
    | some d => have := hs 0 d e; rw [h.h0] at this; cases this
  · show setW s.wt c 0 d < _
    unfold setW
    split
    · omega
    · exact h.wb d
  · show setW s.wt c 0 d = 0
    unfold setW
    split
    · rfl
    · exact h.wo d hd
  · change setW s.wt c 0 d ≠ 0 at hd
    change hm' (setW s.wt c 0 d) = some d at he
    unfold setW at hd he
    split at hd
    · exact hd rfl
    · rename_i e
      rw [if_neg e] at he
      exact h.hw d hd (hs _ d he)
theorem dm_ok {s : Lk} (h : s.Ok) (c : Nat) (l : List Nat) : (dmS s c l).Ok := drop_ok h c (fun id d e => by
  change (if id ∈ l then none else s.hm id) = some d at e
  split at e
  · cases e
  · exact e)
theorem dm_nil (s : Lk) (c : Nat) : dmS s c [] = ⟨s.n, s.hm, setW s.wt c 0, s.sz⟩ := by simp [dmS]
theorem dm_all {s : Lk} {c : Nat} {xs : List Nat} (hx : HeldIs s c xs) : dmS s c xs = dropS s c := by
  unfold dmS dropS
  congr 1
  funext id
  by_cases h : s.hm id = some c
  · rw [if_pos h, if_pos ((hx.2 id).2 h)]
  · rw [if_neg h, if_neg (fun hm => h ((hx.2 id).1 hm))]
theorem dm_next {s : Lk} {c : Nat} {xs : List Nat} {k x : Nat} (hx : xs[k]? = some x) : setH (dmS s c (xs.take k)).hm x none = (dmS s c (xs.take (k + 1))).hm := by
  have hkl := (List.getElem?_eq_some_iff.1 hx).1
  have e : xs.take (k + 1) = xs.take k ++ [x] := by
    rw [List.take_succ_eq_append_getElem hkl, (List.getElem?_eq_some_iff.1 hx).2]
  funext id
  simp only [dmS, setH, e, List.mem_append, List.mem_singleton]
  by_cases h : id = x
  · simp [h]
  · simp [h]
/-- What holds when k locks were taken; the block r is the iterator's. -/
structure DrI (w : World) (g b c : Nat) (s : Lk) (xs : List Nat) (r k : Nat) (W : World) : Prop where
  lt : r < W.heap.size
  ge : w.heap.size + 3 ≤ r
  but : But w W (kfp g b)
  tb : Row W w.heap.size 53 #[.pointer (some ⟨g, 0, none⟩)]
  t1 : Row W (w.heap.size + 1) 53 #[.pointer (some ⟨g, 0, none⟩)]
  t2 : Row W (w.heap.size + 1 + 1) 3 #[.int .i64 (c : Int)]
  at_ : KAt W g b (dmS s c (xs.take k))
theorem dri_stay {w : World} {g b c : Nat} {s : Lk} {xs : List Nat} (hg : g < w.heap.size) (hb : b < w.heap.size) (r k : Nat) (W W' : World) (row : Option Nat) (h : DrI w g b c s xs r k W) (hw : W.grownBy W' row)
    (hr : ∀ q, row = some q → w.heap.size + 3 ≤ q) : DrI w g b c s xs r k W' :=
  ⟨Nat.lt_of_lt_of_le h.lt hw.size, h.ge, h.but.trans (q := fun k => w.heap.size ≤ k) ⟨hw.os, hw.tape, hw.output, hw.size, fun q hq hn => hw.block q hq (fun e => hn (by have := hr q e.symm; show w.heap.size ≤ q; omega))⟩ (fun k hk => .inr hk),
    h.tb.grown hw (fun e => by have := hr _ e.symm; omega), h.t1.grown hw (fun e => by have := hr _ e.symm; omega), h.t2.grown hw (fun e => by have := hr _ e.symm; omega),
    h.at_.same (hw.block _ (by have := h.but.size; omega) (fun e => by have := hr _ e.symm; omega)) (hw.block _ (by have := h.but.size; omega) (fun e => by have := hr _ e.symm; omega))⟩
set_option maxRecDepth 100000 in
set_option maxHeartbeats 2000000 in
theorem drop_any {w : World} {g b : Nat} {s : Lk} (h : KAt w g b s) {c : Nat} (hc : c < s.n) {xs : List Nat} (hx : HeldIs s c xs) :
    Calls Tryz.prog 56 #[.pointer (some ⟨g, 0, none⟩), .int .i64 (c : Int)] w fun e w' => e = .returned (.tuple #[]) ∧ KAt w' g b (dropS s c) ∧ But w w' (kfp g b) := by
  have c64 : c < 64 := by have := h.ok.n2; omega
  have hgl := h.row.lt
  have hbl := h.mp.lt
  have hgb := h.ne
  have hb0 := alloc_below w (.cells #[.pointer (some ⟨g, 0, none⟩)] 53)
  have h0 := h.below hb0
  have hI := kis_any h0 (c : Int)
  rw [isC_yes hc] at hI
  have hfr := h.free (2 + c)
  have hcell := h.cw c64
  have hcm := h.cm
  have h1 : KAt ((w.setCell ⟨g, 2 + c, none⟩ (.int .u64 0)).alloc (.cells #[.pointer (some ⟨g, 0, none⟩)] 53)) g b (dmS s c []) := by
    rw [dm_nil]
    have h2 : KAt (w.setCell ⟨g, 2 + c, none⟩ (.int .u64 0)) g b ⟨s.n, s.hm, setW s.wt c 0, s.sz⟩ := KAt.wset (a := 0) h c64 rfl rfl rfl rfl (drop_ok h.ok c (fun _ _ e => e))
    exact h2.below (alloc_below _ _)
  have hB1 : But w ((w.setCell ⟨g, 2 + c, none⟩ (.int .u64 0)).alloc (.cells #[.pointer (some ⟨g, 0, none⟩)] 53)) (kfp g b) := But.alloc (But.set (But.refl _ _) (.inl rfl) _) _
  have hT1 : Row ((w.setCell ⟨g, 2 + c, none⟩ (.int .u64 0)).alloc (.cells #[.pointer (some ⟨g, 0, none⟩)] 53)) w.heap.size 53 #[.pointer (some ⟨g, 0, none⟩)] :=
by
    have := Row.new (w.setCell ⟨g, 2 + c, none⟩ (.int .u64 0)) 53 #[.pointer (some ⟨g, 0, none⟩)]
    rwa [size_set] at this
  have HI := Lib.hid hI
  have HX := Lib.hid hx
  have HOK := Lib.hid h.ok
  have HK1 := Lib.hid h1
  have HB1 := Lib.hid hB1
  have HT1 := Lib.hid hT1
  have hxb : ∀ id, id ∈ xs → id < 18446744073709551616 := fun id hm => (h.ok.hc id c ((hx.2 id).1 hm)).2
  have HXB := Lib.hid hxb
  clear hx h1 hB1 hT1 hxb h h0 hI hb0
  refine (callsIn_wide (n := 6)).1 ?_
  refine callsIn_of_wp_marks Tryz.func56 rfl trivial ?_ rfl
  simp only [Tryz.ntmps56, List.size_toArray, List.length_cons, List.length_nil, Nat.reduceAdd, Nat.reduceSub, Array.replicate_succ, Array.replicate_zero, List.push_toArray, List.append_toArray, List.nil_append, List.cons_append]
  gi_wp2_with (refine ⟨trivial, ?_⟩; gi_at_call 52; refine (callsIn_wide.2 HI.out).mono ?_; rintro e w' ⟨rfl, rfl⟩)
  gi_wp2_with (refine ⟨trivial, ?_⟩; gi_at_call 57; refine (callsIn_wide.2 (locks_any _ _ _)).mono ?_; rintro e w' ⟨rfl, rfl⟩)
  obtain ⟨W1, hW1⟩ : ∃ W1, W1 = (w.setCell ⟨g, 2 + c, none⟩ (.int .u64 0)).alloc (.cells #[.pointer (some ⟨g, 0, none⟩)] 53) := ⟨_, rfl⟩
  have hs1 : W1.heap.size = w.heap.size + 1 := by rw [hW1]; simp [size_set]
  rw [← hW1] at HK1 HB1 HT1
  obtain ⟨W0, hW0⟩ : ∃ W0, W0 = (W1.alloc (.cells #[.pointer (some ⟨g, 0, none⟩)] 53)).alloc (.cells #[.int .i64 (c : Int)] 3) := ⟨_, rfl⟩
  rw [hW1] at hW0
  rw [← hW0]
  rw [← hW1] at hW0
  have hsz : W0.heap.size = w.heap.size + 3 := by rw [hW0]; simp [hs1]
  have hb0 : Below W1.heap.size W1 W0 := by
    rw [hW0]
    exact Below.and (alloc_below _ _) (alloc_below _ _)
  have hk0 : KAt W0 g b (dmS s c []) := HK1.out.below hb0
  have hB0 : But w W0 (kfp g b) := HB1.out.trans (But.of_below hb0 (fun _ => False)) (fun k hk => hk.elim)
  have hT0 : Row W0 w.heap.size 53 #[.pointer (some ⟨g, 0, none⟩)] := HT1.out.below hb0 HT1.out.lt
  have r1 : Row W0 (w.heap.size + 1) 53 #[.pointer (some ⟨g, 0, none⟩)] := by
    rw [hW0]
    refine Row.alloc ?_ _
    have := Row.new W1 53 #[.pointer (some ⟨g, 0, none⟩)]
    rwa [hs1] at this
  have r2 : Row W0 (w.heap.size + 1 + 1) 3 #[.int .i64 (c : Int)] := by
    rw [hW0]
    have := Row.new (W1.alloc (.cells #[.pointer (some ⟨g, 0, none⟩)] 53)) 3 #[.int .i64 (c : Int)]
    simpa [hs1] using this
  have HK0 := Lib.hid hk0
  have HB0 := Lib.hid hB0
  have HT0 := Lib.hid hT0
  clear hW0 hW1 hk0 hB0 hT0 HK1 HB1 HT1 hb0 hfr HI hcell hcm
  have hKR : ∀ r k W, DrI w g b c s xs r k W → KReads W g b (w.heap.size + 1) (w.heap.size + 1 + 1) (dmS s c []) c xs k := fun r k W h =>
    ⟨h.t1.cell 0, h.t2.cell 0, _, h.at_, fun id hn => by
      show (if id ∈ xs.take k then none else s.hm id) = (if id ∈ ([] : List Nat) then none else s.hm id)
      rw [if_neg (fun hm => hn (List.mem_of_mem_take hm)), if_neg (by simp)], fun j id hj hxj => by
      have hj1 := (List.getElem?_eq_some_iff.1 hxj).1
      show (if id ∈ xs.take k then none else s.hm id) = some c
      rw [if_neg, (HX.out.2 id).1 (List.mem_of_getElem? hxj)]
      intro hm
      obtain ⟨i, hi⟩ := List.mem_iff_getElem?.1 hm
      rw [List.getElem?_take] at hi
      split at hi
      · rename_i hik
        have hi1 := (List.getElem?_eq_some_iff.1 hi).1
        have := List.pairwise_iff_getElem.1 HX.out.1 i j hi1 hj1 (by omega)
        have e1 := (List.getElem?_eq_some_iff.1 hi).2
        have e2 := (List.getElem?_eq_some_iff.1 hxj).2
        omega
      · cases hi⟩
  have HKR := Lib.hid hKR
  clear hKR
  have hx0 : HeldIs (dmS s c []) c xs := ⟨HX.out.1, fun id => by rw [HX.out.2 id]; show _ ↔ (if id ∈ ([] : List Nat) then none else s.hm id) = some c; rw [if_neg (by simp)]⟩
  refine range_allR rfl (by omega) (gf := 84) (lb := #[.pointer (some ⟨w.heap.size + 1, 0, none⟩), .pointer (some ⟨w.heap.size + 1 + 1, 0, none⟩)]) rfl trivial (enters_of Tryz.func84 (by kernel_rfl) rfl) xs (encs := encA) (fun _ => rfl) (DrI w g b c s xs)
    (fun r k W W' row hI hg hr => dri_stay hgl hbl r k W W' row hI hg (fun q e => by obtain ⟨a1, _, a2⟩ := hr q e; omega))
    (fun r W hb hr hr' => ⟨hr', by omega, HB0.out.trans (But.of_below hb (fun _ => False)) (fun k hk => hk.elim), HT0.out.below hb HT0.out.lt, r1.below hb r1.lt, r2.below hb r2.lt, HK0.out.below hb⟩)
    (kiter_tells HK0.out (s := dmS s c []) hc hx0 (w.heap.size + 1) (w.heap.size + 1 + 1) _ (r1.cell 0) (r2.cell 0) HKR.out)
    (fun x => { tmps := #[.pointer (some ⟨g, 0, none⟩), .int .i64 (c : Int), .pointer (some ⟨w.heap.size, 0, none⟩), undef, .int .u64 (x : Int), .pointer (some ⟨g, 0, none⟩), .int .i64 (c : Int), .bool true, .bool false,
      .pointer (some ⟨g, 0, none⟩), .int .i64 (c : Int), .pointer (some ⟨g, 0, none⟩), .pointer (some ⟨g, 2, none⟩), .pointer (some ⟨g, 2 + c, none⟩), .pointer (some ⟨g, 0, none⟩), .int .i64 (c : Int),
      .func (.func 84) #[] #[.pointer (some ⟨w.heap.size + 1, 0, none⟩), .pointer (some ⟨w.heap.size + 1 + 1, 0, none⟩)], .int .u64 (x : Int), undef, undef, undef, undef, undef], defers := [] }) ?assign ?body ?done
  case assign =>
    intro l x W K hK
    dsimp only [encA]
    gi_wp2
    exact hK
  case body =>
    intro l r k x W hx hr2 hD
    have ht := hD.tb.cell 0
    have hcm := hD.at_.cm
    obtain ⟨w2, hdel, hH2, hg2⟩ := has_del (ty := 0) hD.at_.mp (HXB.out x (List.mem_of_getElem? hx))
    have HD := Lib.hid hD
    have HH2 := Lib.hid hH2
    have HG2 := Lib.hid hg2
    have HXX := Lib.hid hx
    clear hD hH2 hg2 hx r1 r2 hx0
    gi_wp2
    have hne : ∀ q, q ≠ b → q < W.heap.size → w2.heap[q]? = W.heap[q]? := fun q hq hl => HG2.out.block q hl (fun e => hq (by injection e))
    have hgr : ∀ q, q ≠ b → some q ≠ some b := fun q hq e => hq (by injection e)
    refine ⟨⟨HG2.out.size, fun q o hq ho hc => (hne q (by omega) (Array.getElem?_eq_some_iff.1 ho).1).trans ho⟩, ⟨Nat.lt_of_lt_of_le HD.out.lt HG2.out.size, HD.out.ge, ?_, HD.out.tb.grown HG2.out (hgr _ (by omega)), HD.out.t1.grown HG2.out (hgr _ (by omega)), HD.out.t2.grown HG2.out (hgr _ (by omega)), ?_⟩,
      fun o ho => (hne r (by have := HD.out.ge; omega) HD.out.lt).trans ho⟩
    · exact HD.out.but.trans (q := kfp g b) ⟨HG2.out.os, HG2.out.tape, HG2.out.output, HG2.out.size, fun q hq hn => hne q (fun e => hn (.inr e)) hq⟩ (fun k hk => .inl hk)
    · refine ⟨HD.out.at_.row.grown HG2.out (hgr _ hgb), ?_, dm_ok HOK.out c _⟩
      rw [← dm_next HXX.out]
      exact HH2.out
  case done =>
    rintro D r W hD hI hK
    clear r1 r2 hx0
    gi_wp2
    refine ⟨by simp, .inl ⟨_, _, rfl, run_takeDeferred hK, ?_⟩⟩
    have hI' := dri_stay hgl hbl r _ W _ _ hI (grownBy_putObj' W D (.deferred none)) (fun q e => by cases e; omega)
    refine ⟨_, results_none rfl _ _ _, rfl, ?_, hI'.but⟩
    have := hI'.at_
    rwa [List.take_length, dm_all HX.out] at this
end Go.Proofs.YtedefebdfcgjeaaGreatDoor
