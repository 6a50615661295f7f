/- Texts of this claim, packed: PFence. -/
import Derived.Test.YtahojhaeebmpoaaGreatDoorPk20
import Derived.Test.YtahojhaeebmpoaaGreatDoorPk16
import Derived.Maps.RangeWalk
/- Fence: all that a client has marked lasts, of each line in order; for states that a memory can have. -/
namespace Go.Proofs.YtahojhaeebmpoaaGreatDoor
open Go.RowKit Go.Maps
set_option linter.unusedVariables false

theorem fp_obj {w : World} {y : Lay} {s : St} (h : MemAt w y s) : ∀ k, y.fp k → (∃ cs t, w.heap[k]? = some (.cells cs t (0, 0))) ∨ ∃ es c, w.heap[k]? = some (.map es c) := by
  rintro k (rfl | rfl | rfl | rfl | rfl | ⟨j, v, hv, hk⟩)
  · exact .inl ⟨_, _, h.row⟩
  · obtain ⟨c, hc⟩ := own_at h.las
    exact .inl ⟨_, _, hc⟩
  · obtain ⟨c, hc⟩ := own_at h.vie
    exact .inl ⟨_, _, hc⟩
  · obtain ⟨c, hc⟩ := own_at h.pen
    exact .inl ⟨_, _, hc⟩
  · exact .inr h.marks.map
  · obtain ⟨c, hc⟩ := ps_row h hv hk
    exact .inl ⟨_, _, hc⟩
theorem iter_not {w : World} {y : Lay} {s : St} {r : Nat} {m : Option Nat} {a c : Nat} {seen : Array Nat} (h : MemAt w y s) (hr : w.heap[r]? = some (.mapIter m a seen c)) : ¬ y.fp r := by
  intro hf
  rcases fp_obj h r hf with ⟨cs, t, e⟩ | ⟨es, c, e⟩
  · rw [e] at hr; cases hr
  · rw [e] at hr; cases hr
theorem ranges_iter {P : Program} {k : TypeId} {R : Value → Option (DataW Unit × List MemPlace)} {w : World} {b r n : Nat} {D : DataW Unit} {left : Lit → Bool} {cnt : Nat} (h : w.ranges P k R b r n D left cnt) :
    ∃ a seen c, w.heap[r]? = some (.mapIter (some b) a seen c) := by
  obtain ⟨es, clock, since, seen, c0, hb, F, hs, hD, hr, _⟩ := h
  exact ⟨_, _, _, hr⟩

/-- The loop's state: which lines have been fenced, and what is left. -/
structure FenAt (w wr : World) (y : Lay) (s : St) (c r : Nat) (V : Nat → Bool) (y' : Lay) (n : Nat) (D : DataW Unit) (left : Lit → Bool) (cnt : Nat) : Prop where
  rg : wr.ranges Tryz.prog 3 mkR y.mb r n D left cnt
  mem : MemAt wr y' (s.fenV c V)
  turn : Turn w wr y y'
  rge : w.heap.size ≤ r
  mb : y'.mb = y.mb
  left : ∀ j, j < s.nl → (left (key j) = true ↔ V j = false ∧ someMk (s.mm j))
theorem fen_left {s : St} {c : Nat} {V : Nat → Bool} {j : Nat} (hV : V j = false) : (s.fenV c V).mm j = s.mm j := by
  simp [St.fenV, hV]
theorem fen_next {w wr : World} {y y' : Lay} {s : St} {c r n cnt : Nat} {V : Nat → Bool} {D : DataW Unit} {left : Lit → Bool} (h : FenAt w wr y s c r V y' n D left cnt) {x : Int} {f : Nat → Nat} {kl : Lit} {a : DataW Unit} {ps : List MemPlace}
    (hkey : keyOf Tryz.prog 3 (.int .i64 x) = some kl) (hl : left kl = true) (hv : mkR (mkV f) = some (a, ps)) (hat : ∀ zd, D.atKey kl zd = a) :
    ∃ j : Nat, j < s.nl ∧ x = (j : Int) ∧ kl = key j ∧ V j = false ∧ mkV f = mkV (s.mm j) := by
  obtain ⟨D2, own2, hk2, hs2, ha2⟩ := h.mem.marks
  rw [h.mb] at own2
  have hD := own_one h.rg.owns own2
  subst hD
  have hhas := left_has h.rg keyed hl
  obtain ⟨j, hj, rfl⟩ := hk2 kl hhas
  have hj' : j < s.nl := hj
  have hm := h.mem.most
  have hx : x = (j : Int) := by
    have e1 : Value.int .i64 x = .int .i64 (j : Int) := keyed.inj hkey (key_of (i := j) (by omega))
    exact (Value.int.inj e1).2
  have hV := ((h.left j hj').1 hl).1
  refine ⟨j, hj', hx, rfl, hV, ?_⟩
  obtain ⟨f', e3, e4, _⟩ := mkR_inv hv
  have e6 : a = mkD f' := congrArg Prod.fst e4
  have e5 := ha2 j hj (mkD fun _ => 0) hhas
  rw [hat, fen_left hV] at e5
  have e7 : mkD f' = mkD (s.mm j) := e6.symm.trans e5
  exact e3.trans (mkV_of (mkD_inj e7))
theorem fen_round {w wr w1 W2 w3 : World} {y y' y3 : Lay} {s : St} {c r n cnt cnt1 j : Nat} {V : Nat → Bool} {D : DataW Unit} {left : Lit → Bool} (ok : s.Ok) (h : FenAt w wr y s c r V y' n D left cnt)
    (hj : j < s.nl) (hV : V j = false) (hrg1 : w1.ranges Tryz.prog 3 mkR y.mb r n D (fun z => left z && !z.sameKey (key j)) cnt1) (hlt : cnt1 < cnt) (hg1 : wr.grownBy w1 (some r)) (hb2 : Below w1.heap.size w1 W2)
    (hm3 : MemAt w3 y3 ((s.fenV c V).last j (s.mm j c))) (ht3 : Turn W2 w3 y' y3) (hmb : y3.mb = y'.mb) (hst : MapStep W2 w3 y'.mb) :
    ∃ n3 D3 left3 cnt3, FenAt w w3 y s c r (fun i => V i || i == j) y3 n3 D3 left3 cnt3 ∧ cnt3 < cnt := by
  obtain ⟨a, seen, q, hit⟩ := ranges_iter hrg1
  have hrlt : r < w1.heap.size := hrg1.lt
  have hm1 : MemAt w1 y' (s.fenV c V) := h.mem.same fun k hk => hg1.block k (h.mem.lt k hk) (fun e => by
    obtain ⟨a', seen', q', hit'⟩ := ranges_iter h.rg
    exact iter_not h.mem hit' (by rw [← Option.some.inj e]; exact hk))
  have hm2 : MemAt W2 y' (s.fenV c V) := hm1.below hb2
  have hit2 : W2.heap[r]? = some (.mapIter (some y.mb) a seen q) := (hb2.block r hrlt).trans hit
  have hnot : ¬ y'.fp r := iter_not hm2 hit2
  have hrg2 : W2.ranges Tryz.prog 3 mkR y.mb r n D (fun z => left z && !z.sameKey (key j)) cnt1 :=
    hrg1.kept (row := none) ⟨hb2.os, hb2.tape, hb2.output, hb2.size, fun k hk _ => hb2.block k hk⟩ (by simp) (by simp)
  obtain ⟨D3, own3, hk3, hs3, ha3⟩ := hm3.marks
  rw [hmb, h.mb] at own3
  rw [h.mb] at hst
  obtain ⟨cnt3, hrg3, hle⟩ := ranges_step hrg2 keyed hst (ht3.but.block r (by have := hb2.size; omega) hnot) own3
  rw [fenV_step ok (by have := h.mem.plen; simpa [St.fenV] using this) hj hV] at hm3 hs3
  have b1 : But w w1 y.fp := h.turn.but.trans (q := fun k => k = r) ⟨hg1.os, hg1.tape, hg1.output, hg1.size, fun k hk hn => hg1.block k hk (fun e => hn (Option.some.inj e))⟩ (fun k e => .inr (by rw [e]; exact h.rge))
  have b2 : But w W2 y.fp := b1.trans (But.of_below hb2 y.fp) (fun _ h => .inl h)
  have b3 : But w w3 y.fp := b2.trans ht3.but h.turn.fp
  refine ⟨_, D3, _, cnt3, ⟨hrg3, hm3, ⟨ht3.g.trans h.turn.g, b3, fun k hk => ?_⟩, h.rge, hmb.trans h.mb, ?_⟩, by omega⟩
  · rcases ht3.fp k hk with h1 | h1
    · exact h.turn.fp k h1
    · exact .inr (Nat.le_trans b2.size h1)
  · intro i hi
    have h1 := h.left i hi
    have h2 := hs3 i hi
    by_cases e : i = j
    · subst e
      simp [same_refl (key_is _)]
    · have e1 : (key i).sameKey (key j) = false := Maps.sameKey_ne (fun x => e (key_inj x))
      have e2 : (V i || i == j) = V i := by
        have : (i == j) = false := by simpa using e
        rw [this, Bool.or_false]
      rw [e1, e2]
      simp only [Bool.not_false, Bool.and_true, Bool.and_eq_true]
      constructor
      · exact fun hx => h1.1 hx.1
      · intro hx
        refine ⟨h1.2 hx, h2.2 ?_⟩
        rw [fen_left (by rw [e2]; exact hx.1)]
        exact hx.2
set_option maxRecDepth 100000 in
set_option maxHeartbeats 3200000 in
theorem fence_ok {w : World} {y : Lay} {s : St} (h : MemAt w y s) (ok : s.Ok) (c : Nat) (hc : c ≤ 64) (hfe1 : s.fe + 1 < 9223372036854775808) :
    Calls Tryz.prog 142 #[.pointer (some ⟨y.g, 0, none⟩), .int .i64 (c : Int)] w (StPost w y (s.fence c) 0) := by
  have HC := Lib.hid (isClient_any (c : Int) w)
  rw [show decide (0 ≤ (c : Int) ∧ (c : Int) ≤ 64) = true from by simp; omega] at HC
  have HR0 : Calls Tryz.prog 87 #[.pointer (some ⟨y.g, 0, none⟩), .bool true, .int .u64 0] w fun e w' => e = .returned (.int .i64 0) ∧ w = w' := refused_ok h 0 (by decide) (by have := h.pos; omega)
  have HR := Lib.hid HR0
  have hmost := h.most
  have hd := h.differ
  have c3 := h.row.cell 3
  have c7 := h.row.cell 7
  simp only [List.getElem?_toArray, List.getElem?_cons_succ, List.getElem?_cons_zero] at c3 c7
  have f7 := h.row.free 7
  have hfe := ok.num.2.2.2
  unfold wv at c7
  obtain ⟨W0, hW0⟩ : ∃ W0, W0 = w.setCell ⟨y.g, 7, none⟩ (wv (s.fe + 1)) := ⟨_, rfl⟩
  have hW1 := hW0
  rw [show wv (s.fe + 1) = .int .u64 ((s.fe : Int) + 1) from rfl] at hW1
  obtain ⟨s1, hs1⟩ : ∃ s1 : St, s1 = { s with fe := s.fe + 1 } := ⟨_, rfl⟩
  have hm0 : MemAt W0 y s1 := by
    rw [hW0, hs1]
    exact mem_marks h rfl rfl rfl rfl (h.row.set 7 _) (fun k _ h1 _ => heap_setCell_other _ _ _ _ h1) (h.marks.same (heap_setCell_other _ _ _ _ (Ne.symm hd.g_mb)))
  have d3 : W0.cell? ⟨y.g, 3, none⟩ = some (.map (some y.mb)) := by
    rw [hW1, cell_else (by decide)]
    exact c3
  have hok1 : s1.Ok := by
    rw [hs1]
    exact ⟨ok.las, ok.vie, ok.put, ok.few, ok.mks, ⟨ok.num.1, ok.num.2.1, ok.num.2.2.1, hfe1⟩⟩
  have hnl : s1.nl = s.nl := by rw [hs1]
  obtain ⟨D, hown, hk, hs, ha⟩ := hm0.marks
  have ht0 : Turn w W0 y y := by
    rw [hW0]
    exact ⟨rfl, (But.refl w _).set (p := ⟨y.g, 7, none⟩) (.inl rfl) _, fun _ h => .inl h⟩
  have e0 : s.fence c = s1.fenV c (fun _ => true) := by rw [hs1]; rfl
  rw [e0]
  have HM0 := Lib.hid hm0
  have HT0 := Lib.hid ht0
  have HK := Lib.hid hk
  have HS := Lib.hid hs
  have HOK := Lib.hid hok1
  have HD := Lib.hid hd
  clear h ok hd hm0 ht0 hk hs ha hok1 e0 hW0 c3 HR0
  subst hW1
  go_enter Tryz.func142, Tryz.ntmps142
  go_wp2_with fail
  refine HC.out.mono ?_
  rintro e w1 ⟨rfl, rfl⟩
  go_wp2_with fail
  refine HR.out.mono ?_
  rintro e w1 ⟨rfl, rfl⟩
  go_wp2_with (at_range; refine wpList_range_own _ rfl (.tmp 27) 112 rfl 3 127 keyed Tryz.underlying112 mkR y.mb (Maps.size D) D rfl hown ?_; intro w0 hrg0 hg0 hs0)
  go_frame
  obtain ⟨r, hr⟩ : ∃ r, r = (w.setCell ⟨y.g, 7, none⟩ (.int .u64 ((s.fe : Int) + 1))).heap.size := ⟨_, rfl⟩
  rw [← hr] at hrg0 ⊢
  have hstart : FenAt w w0 y s1 c r (fun _ => false) y (Maps.size D) D (Maps.has D) (Maps.size D) := by
    refine ⟨hrg0, ?_, ?_, by rw [hr, size_set]; exact Nat.le_refl _, rfl, ?_⟩
    · rw [fenV_none]
      exact HM0.out.same fun k hk => hg0.block k (HM0.out.lt k hk) (by simp)
    · exact HT0.out.trans (Turn.of_below y ⟨hg0.os, hg0.tape, hg0.output, hg0.size, fun k hk => hg0.block k hk (by simp)⟩)
    · intro j hj
      rw [HS.out j hj]
      simp
  have HST := Lib.hid hstart
  have HN := Lib.hid hnl
  clear hstart hrg0 hg0 hs0 hr hown hnl d3 c7 f7 hs1
  go_loopw [6] (fun v wr => ∃ V y' n D left cnt, FenAt w wr y s1 c r V y' n D left cnt) (fun _ wr => wr.rangeLeft y.mb r)
  case atStart => exact ⟨_, _, _, _, _, _, HST.out⟩
  case round =>
    obtain ⟨V, y', n, D', left, cnt, hF⟩ := hrel
    have hF' := hF
    obtain ⟨hrg, hmem, hturn, hrge, hmb, hleft⟩ := hF
    have HFM := Lib.hid hmem
    have HFT := Lib.hid hturn
    have HFL := Lib.hid hleft
    have HF := Lib.hid hF'
    have HRG := Lib.hid hrg
    clear hmem hturn hleft hF' HST
    go_wp2_with (at_next; refine wpList_next_ranges wr rfl (.tmp 28) rfl 3 keyed mkR (fun x : Int => Value.int .i64 x) mkV (fun key kl hkey => by obtain ⟨x, rfl, _⟩ := Maps.keyOf_int_inv Tryz.underlying3 hkey; exact ⟨x, rfl⟩) (fun v y hv => by obtain ⟨f, rfl, _⟩ := mkR_inv hv; exact ⟨f, rfl⟩) y.mb r n D' left cnt rfl hrg ?_ ?_)
    · intro hc0 hl0
      clear hrg
      go_wp2_with fail
      go_ret
      have hv : ∀ j, j < s1.nl → V j = false → s1.mm j c = 0 := by
        intro j hj hv
        have h1 : ¬ someMk (s1.mm j) := fun hx => by
          have := (HFL.out j hj).2 ⟨hv, hx⟩
          rw [hl0] at this
          cases this
        exact not_some h1 c (by omega)
      have hlen := HM0.out.plen
      have hll := ownsRow_len HM0.out.las
      refine ⟨rfl, y', ?_, HFT.out⟩
      rw [← fenV_all HOK.out hlen hll hv]
      exact HFM.out
    · intro x f kl a ps w1 cnt1 hkey hl hv hat hrg1 hlt hg1 hsz hen
      clear hsz
      obtain ⟨j, hj, rfl, rfl, hVj, hfm⟩ := fen_next HF.out hkey hl hv hat
      rw [hfm, mkV_marr] at hen ⊢
      obtain ⟨B, hB⟩ : ∃ B, B = marr (s1.mm j) := ⟨_, rfl⟩
      rw [← hB] at hen ⊢
      have hfit : (Tryz.prog.info? 127).map (·.size) = some B.size := by rw [hB]; exact marr_fit _
      have hold : (Array.replicate 65 (Value.int .i64 0)).size = B.size := by rw [hB, marr_size]; rfl
      have hone : B.all (·.oneCell') = true := by rw [hB]; exact marr_one _
      have hr3 := Row.new w1 127 (Array.replicate 65 (Value.int .i64 0))
      have hrr : Row ((w1.alloc (.cells Tryz.zeroCells127 127)).setRow w1.heap.size B) w1.heap.size 127 B := (Row.new w1 127 Tryz.zeroCells127).setRow B
      have hcB := hrr.cell c
      rw [hB, marr_get _ _ (by omega), ← hB] at hcB
      have hb2 : Below w1.heap.size w1 ((w1.alloc (.cells Tryz.zeroCells127 127)).setRow w1.heap.size B) := below_setRow (alloc_below _ _) (Nat.le_refl _) _
      have hm1 : MemAt w1 y' (s1.fenV c V) := HFM.out.same fun k hk => hg1.block k (HFM.out.lt k hk) (fun e => by
        obtain ⟨a', seen', q', hit'⟩ := ranges_iter HRG.out
        exact iter_not HFM.out hit' (by rw [← Option.some.inj e]; exact hk))
      have HLast := Lib.hid (last_ok (hm1.below hb2) (fenV_ok HOK.out c V) j (s1.mm j c) hj (by
        have h1 := (fenV_ok HOK.out c V).mks j c
        rwa [fen_left hVj] at h1))
      rw [HFT.out.g] at HLast
      have HB2 := Lib.hid hb2
      have HR1 := Lib.hid hrg1
      have HG1 := Lib.hid hg1
      clear hrr hb2 hm1 hrg1 hg1 hkey hl hv hat hfm hB hrg
      go_wp2_with (refine wpList_store_row rfl 127 (.tmp 7) (.tmp 33) rfl w1.heap.size B rfl rfl 127 _ hr3 hfit hold hone ?_)
      refine HLast.out.mono ?_
      rintro e w3 ⟨rfl, y3, hm3, ht3, hmb3, hst3⟩
      obtain ⟨n3, D3, left3, cnt3, hF3, hlt3⟩ := fen_round HOK.out HF.out hj hVj HR1.out hlt HG1.out HB2.out hm3 ht3 hmb3.2.2.2.1 hst3
      have HF3 := Lib.hid hF3
      clear hF3 hm3 ht3 hst3
      go_wp2
      go_roundw
      case rel => exact ⟨_, _, _, _, _, _, HF3.out⟩
      case measure => rw [HF3.out.rg.left_eq, HRG.out.left_eq]; exact hlt3
end Go.Proofs.YtahojhaeebmpoaaGreatDoor
