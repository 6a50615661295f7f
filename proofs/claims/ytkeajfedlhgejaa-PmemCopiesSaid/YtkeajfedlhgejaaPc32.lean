/- Texts of this claim, packed: R2Arg, R2Few. -/
import Derived.Test.YtkeajfedlhgejaaPc22
import Derived.Test.YtkeajfedlhgejaaPc13
import Derived.OpenShut
import Derived.Deep.SlicePairs
/- An argument that is a list of acts, each with a slice of its own: what lies in memory. -/
namespace Go.Proofs.Ytkeajfedlhgejaa
open Go.ChangeShapes Go.WideShapes Go.RowKit
set_option linter.unusedVariables false
instance : Inhabited Act2 := ⟨⟨0, 0, 0, 0, 0, []⟩⟩
/-- A slice that reads as a list of numbers. -/
structure KpAt (w : World) (v : Value) (kp : List Int) : Prop where
  sh : ∃ A cap, v = .slice A kp.length cap ∧ kp.length ≤ cap ∧ cap ≤ maxLen ∧ Sl w A (kp.map iv) ∧ (A = none → cap = 0)
  wf : ∀ z ∈ kp, (Lit.int .i64 z).wf = true
theorem sl_lowZ {w w' : World} {A : Option Addr} {xs : List Value} (h : Sl w A xs) (hb : Below w.heap.size w w') : Sl w' A xs := h.below hb
theorem KpAt.below {w w' : World} {v : Value} {kp : List Int} (h : KpAt w v kp) (hb : Below w.heap.size w w') : KpAt w' v kp := by
  obtain ⟨⟨A, cap, h1, h2, h3, h4, h6⟩, h5⟩ := h
  exact ⟨⟨A, cap, h1, h2, h3, h4.below hb, h6⟩, h5⟩
/-- An act's six values. -/
def actV (x : Act2) (v : Value) : List Value := [.int .i64 x.k, .int .i64 x.c, wv x.a, wv x.v, .int .i64 x.n, v]
def act2 (l : List Act2) (i : Nat) : Act2 := l.getD i default
/-- Acts in a row: what each one's slice is stands in ks. -/
structure Acts2At (w : World) (x : Addr) (l : List Act2) (ks : Nat → Value) : Prop where
  c : ∀ i, i < l.length → ∀ (j : Nat) (u : Value), (actV (act2 l i) (ks i))[j]? = some u → w.cell? ((x.add (i * 6)).add j) = some u
  kp : ∀ i, i < l.length → KpAt w (ks i) (act2 l i).kp
  a : ∀ i, i < l.length → (act2 l i).a < 18446744073709551616 ∧ (act2 l i).v < 18446744073709551616
theorem Acts2At.below {w w' : World} {x : Addr} {l : List Act2} {ks : Nat → Value} (h : Acts2At w x l ks) (hb : Below w.heap.size w w') : Acts2At w' x l ks :=
  ⟨fun i hi j u hu => (hb.cell (w.block_lt_of_cell? _ (h.c i hi j u hu))).trans (h.c i hi j u hu), fun i hi => (h.kp i hi).below hb, h.a⟩
def Acts2In (W : World) (A : Option Addr) (n cap : Nat) (l : List Act2) : Prop := l.length = n ∧ n ≤ cap ∧ n ≤ maxLen ∧ (0 < l.length → ∃ ga ks, A = some ga ∧ Acts2At W ga l ks)
theorem kp_open {H : Type} {enc : TypeId × Value → H} {W : World} {held : Bool} {spare : Nat → Bool} {fuel : Nat} {v : Value} {x : DataW H × List MemPlace} (h : DataW.trod enc Try.prog W 0 spare held fuel 36 [v] = some x) : ∃ kp, KpAt W v kp := by
  rcases open_ints Try.underlying36 Try.underlying3 (by kernel_rfl) h with ⟨hcs, _⟩ | ⟨a, l, c, zs, hcs, _, hl, hm, hz, _, hcell, hwz⟩
  · simp at hcs
    subst hcs
    exact ⟨[], ⟨none, 0, rfl, Nat.le_refl _, by decide, fun i u hu => by simp at hu, fun _ => rfl⟩, by simp⟩
  · simp at hcs
    subst hcs
    have hlz : l ≤ zs.length := by rw [hz]; split <;> omega
    refine ⟨zs.take l, ⟨some a, c, by rw [List.length_take, Nat.min_eq_left hlz], by rw [List.length_take]; omega, hm, fun i u hu => ?_, fun e => by cases e⟩, fun z hz => hwz z (List.mem_of_mem_take hz)⟩
    rw [List.getElem?_map, List.getElem?_take] at hu
    split at hu
    · rename_i hi
      have hzi : i < zs.length := by omega
      rw [List.getElem?_eq_getElem hzi] at hu
      simp at hu
      subst hu
      refine ⟨a, rfl, ?_⟩
      rw [hcell i hzi, List.getD_eq_getElem?_getD, List.getElem?_eq_getElem hzi]
      rfl
    · simp at hu
set_option maxRecDepth 100000 in
set_option maxHeartbeats 1600000 in
theorem open_acts2 {H : Type} {enc : TypeId × Value → H} {W : World} {held : Bool} {spare : Nat → Bool} {fuel : Nat} {A : Option Addr} {n cap : Nat} {x : DataW H × List MemPlace} (h : DataW.trod enc Try.prog W 0 spare held fuel 23 (Value.slice A n cap).cells.toList = some x) :
    ∃ l, Acts2In W A n cap l := by
  rcases Go.Deep.open_slice Try.underlying23 h with ⟨hcs, _⟩ | ⟨a, len, cp, m, k, D, Pl, hcs, hb, hl, hm, hmm, _, hx⟩
  · simp [Value.cells] at hcs
    obtain ⟨rfl, rfl, rfl⟩ := hcs
    exact ⟨[], rfl, Nat.le_refl _, by decide, fun h => absurd h (by decide)⟩
  · simp [Value.cells] at hcs
    obtain ⟨rfl, rfl, rfl⟩ := hcs
    have hnm : n ≤ m := by rw [hmm]; split <;> omega
    have hc6 : Try.prog.cellsOf 38 = 6 := by kernel_rfl
    have hw : ∀ i, i < n → ∃ q : Act2 × Value, (∀ (j : Nat) (u : Value), (actV q.1 q.2)[j]? = some u → W.cell? ((a.add (i * 6)).add j) = some u) ∧ KpAt W q.2 q.1.kp ∧ q.1.a < 18446744073709551616 ∧ q.1.v < 18446744073709551616 := fun i hi => by
      obtain ⟨cs', h1, h2⟩ := hx i (by omega)
      rw [hc6] at h1
      obtain ⟨_, hlen, hcell⟩ := World.cells?_some h1
      obtain ⟨xs, k', hk, hxy, _, hxl, hf⟩ := DataW.trod_struct Try.underlying38 h2
      match xs, hxl, cs', hlen with
      | [y0, y1, y2, y3, y4, y5], _, [v0, v1, v2, v3, v4, v5], _ =>
        have g0 := hf 0 _ rfl
        have g1 := hf 1 _ rfl
        have g2 := hf 2 _ rfl
        have g3 := hf 3 _ rfl
        have g4 := hf 4 _ rfl
        have g5 := hf 5 _ rfl
        have e0 := hcell 0 (by omega)
        have e1 := hcell 1 (by omega)
        have e2 := hcell 2 (by omega)
        have e3 := hcell 3 (by omega)
        have e4 := hcell 4 (by omega)
        have e5 := hcell 5 (by omega)
        have ci : Try.prog.cellsOf 3 = 1 := by kernel_rfl
        have ca : Try.prog.cellsOf 35 = 1 := by kernel_rfl
        have cu : Try.prog.cellsOf 34 = 1 := by kernel_rfl
        have cs : Try.prog.cellsOf 36 = 1 := by kernel_rfl
        simp [ci, ca, cu, cs] at g0 g1 g2 g3 g4 g5
        obtain ⟨n0, t0, _, f0⟩ := DataW.trod_int (by kernel_rfl) g0
        obtain ⟨n1, t1, _, f1⟩ := DataW.trod_int (by kernel_rfl) g1
        obtain ⟨n2, t2, _, f2⟩ := DataW.trod_int (by kernel_rfl) g2
        obtain ⟨n3, t3, _, f3⟩ := DataW.trod_int (by kernel_rfl) g3
        obtain ⟨n4, t4, _, f4⟩ := DataW.trod_int (by kernel_rfl) g4
        obtain ⟨kp, hkp⟩ := kp_open g5
        have b2 := bounds_u64 f2
        have b3 := bounds_u64 f3
        simp only [List.cons.injEq, and_true] at t0 t1 t2 t3 t4
        refine ⟨(⟨n0, n1, n2.toNat, n3.toNat, n4, kp⟩, v5), ?_, hkp, by show n2.toNat < _; omega, by show n3.toNat < _; omega⟩
        intro j u hu
        rw [Go.Deep.add_add, Nat.add_zero] at e0
        match j, hu with
        | 0, hu => cases hu; rw [add_zero', ← t0]; simpa using e0
        | 1, hu => cases hu; rw [← t1]; simpa using e1
        | 2, hu =>
          have hu' : u = wv n2.toNat := by simpa [actV] using hu.symm
          rw [hu', wv, show ((n2.toNat : Nat) : Int) = n2 from by omega, ← t2]; simpa using e2
        | 3, hu =>
          have hu' : u = wv n3.toNat := by simpa [actV] using hu.symm
          rw [hu', wv, show ((n3.toNat : Nat) : Int) = n3 from by omega, ← t3]; simpa using e3
        | 4, hu => cases hu; rw [← t4]; simpa using e4
        | 5, hu => cases hu; simpa using e5
        | j + 6, hu => simp [actV] at hu
    obtain ⟨q, hq⟩ := Go.Deep.choose_lt (α := Act2 × Value) hw
    have hget : ∀ i, i < n → act2 ((List.range n).map fun i => (q i).1) i = (q i).1 := fun i hi => by
      unfold act2
      rw [List.getD_eq_getElem?_getD, List.getElem?_map, List.getElem?_range hi]; rfl
    refine ⟨(List.range n).map fun i => (q i).1, by simp, hl, by omega, fun _ => ⟨a, fun i => (q i).2, rfl, ⟨fun i hi => ?_, fun i hi => ?_, fun i hi => ?_⟩⟩⟩
    all_goals have hi' : i < n := by simpa using hi
    all_goals rw [hget i hi']
    · exact (hq i hi').1
    · exact (hq i hi').2.1
    · exact (hq i hi').2.2
end Go.Proofs.Ytkeajfedlhgejaa
/- few, fits: are acts, are bytes such as are gone through? -/
namespace Go.Proofs.Ytkeajfedlhgejaa
open Go Go.RowKit
set_option linter.unusedVariables false
def fewB (l : List Act2) (M : Nat) : Bool := decide (l.length ≤ M) && l.all fun x => decide (x.kp.length ≤ 20)
theorem fewB_iff {l : List Act2} {M : Nat} : fewB l M = true ↔ l.length ≤ M ∧ ∀ i, i < l.length → (act2 l i).kp.length ≤ 20 := by
  unfold fewB
  rw [Bool.and_eq_true, List.all_eq_true]
  constructor
  · rintro ⟨h1, h2⟩
    refine ⟨by simpa using h1, fun i hi => ?_⟩
    have := h2 _ (List.getElem_mem hi)
    unfold act2
    rw [List.getD_eq_getElem?_getD, List.getElem?_eq_getElem hi]
    simpa using this
  · rintro ⟨h1, h2⟩
    refine ⟨by simpa using h1, fun x hx => ?_⟩
    obtain ⟨i, hi, rfl⟩ := List.getElem_of_mem hx
    have := h2 i hi
    unfold act2 at this
    rw [List.getD_eq_getElem?_getD, List.getElem?_eq_getElem hi] at this
    simpa using this
set_option maxRecDepth 100000 in
set_option maxHeartbeats 1600000 in
theorem few_any2 {w : World} {A : Option Addr} {n cap : Nat} {l : List Act2} (h : Acts2In w A n cap l) (M : Nat) (hM : M ≤ 1000) :
    Calls Try.prog 7 #[.slice A n cap, .int .i64 (M : Int)] w fun e w' => e = .returned (.bool (fewB l M)) ∧ w = w' := by
  obtain ⟨hl, hc, hmx, hat⟩ := h
  obtain ⟨b, hb⟩ : ∃ b, b = fewB l M := ⟨_, rfl⟩
  rw [← hb]
  have HB := Lib.hid hb
  have HL := Lib.hid hl
  have HAT := Lib.hid hat
  clear hat hb hc
  by_cases hn : n ≤ M
  · have hd : decide ((M : Int) < (n : Int)) = false := by simp; omega
    have hnI : ¬ M < n := by omega
    have hnx : n ≤ 1000 := by omega
    clear hl hmx
    go_enter Try.func7, Try.ntmps7
    go_wp2
    go_loopg [5] n (fun k v wr => ∃ j : Nat, v = .int .i64 (j : Int) ∧ j ≤ n ∧ n - j ≤ k ∧ wr = w ∧ ∀ t, t < j → (act2 l t).kp.length ≤ 20)
    case atStart => exact ⟨0, rfl, by omega, by omega, rfl, fun t ht => by omega⟩
    case round =>
      obtain ⟨j, rfl, hjn, hk, rfl, hall⟩ := hrel
      have HALL := Lib.hid hall
      clear hall
      by_cases hlt : j < n
      · obtain ⟨ga, ks, rfl, hA⟩ := HAT.out (by rw [HL.out]; omega)
        have hjl : j < l.length := by rw [HL.out]; exact hlt
        obtain ⟨⟨A', c', hks, h1, h2, _⟩, _⟩ := hA.kp j hjl
        have q5 : wr.cell? ((ga.add (j * 6)).add 5) = some (.slice A' (act2 l j).kp.length c') := hA.c j hjl 5 _ (by rw [← hks]; rfl)
        obtain ⟨q, hq⟩ : ∃ q, q = (act2 l j).kp.length := ⟨_, rfl⟩
        rw [← hq] at q5 h1
        have HQ := Lib.hid hq
        have hqx : q ≤ 9223372036854775807 := by unfold maxLen at h2; omega
        have q5' : wr.cell? ⟨(ga.add (j * 6)).block, (ga.add (j * 6)).off + 5, none⟩ = some (.slice A' q c') := q5
        clear hA hjl hks h1 h2 hq q5
        by_cases h20 : q ≤ 20
        · have hdq : decide ((20 : Int) < (q : Int)) = false := by simp; omega
          have hq20 : ¬ 20 < q := by omega
          go_wp2
          go_roundg (n - (j + 1))
          case measure => omega
          case rel => exact ⟨j + 1, by go_num, by omega, by omega, rfl, fun t ht => by
            by_cases e : t = j
            · subst e; rw [← HQ.out]; exact h20
            · exact HALL.out t (by omega)⟩
        · have hdq : decide ((20 : Int) < (q : Int)) = true := by simp; omega
          have hq20 : 20 < q := by omega
          have HF : Hid (b = false) := Lib.hid (by
            rw [HB.out]
            cases e : fewB l M
            · rfl
            · have := (fewB_iff.1 e).2 j (by rw [HL.out]; exact hlt)
              have := HQ.out
              omega)
          go_wp2
          go_ret
          exact ⟨by rw [HF.out]; rfl, rfl⟩
      · have hje : j = n := by omega
        have hdj : decide ((j : Int) < (n : Int)) = false := by simp; omega
        have HF : Hid (b = true) := Lib.hid (by
          rw [HB.out]
          exact fewB_iff.2 ⟨by rw [HL.out]; exact hn, fun i hi => HALL.out i (by rw [HL.out] at hi; omega)⟩)
        go_wp2
        go_ret
        exact ⟨by rw [HF.out]; rfl, rfl⟩
  · have hd : decide ((M : Int) < (n : Int)) = true := by simp; omega
    have hnI : M < n := by omega
    have HF : Hid (b = false) := Lib.hid (by
      rw [HB.out]
      cases e : fewB l M
      · rfl
      · have := (fewB_iff.1 e).1
        have := HL.out
        omega)
    have hnx : n ≤ 9223372036854775807 := by unfold maxLen at hmx; omega
    clear hl hmx
    go_enter Try.func7, Try.ntmps7
    go_wp2
    go_ret
    exact ⟨by rw [HF.out]; rfl, rfl⟩
def fitsB (n : Nat) : Bool := mayB (n : Int) && decide (n ≤ 512)
theorem fits_any2 {w : World} (A : Option Addr) (n cap : Nat) (hn : n ≤ 9223372036854775807) :
    Calls Try.prog 14 #[.slice A n cap] w fun e w' => e = .returned (.bool (fitsB n)) ∧ w = w' := by
  have HM := Lib.hid (may2_any (n : Int) w)
  unfold fitsB
  cases hm : mayB (n : Int)
  · rw [hm] at HM
    have HMM := Lib.hid hm
    clear hm
    go_enter Try.func14, Try.ntmps14
    go_wp2_with fail
    refine HM.out.mono ?_
    rintro e w1 ⟨rfl, rfl⟩
    go_wp2
    go_ret
    exact ⟨rfl, rfl⟩
  · rw [hm] at HM
    have HMM := Lib.hid hm
    clear hm
    by_cases h : n ≤ 512
    · rw [decide_eq_true h]
      have hd : decide ((n : Int) ≤ 512) = true := by simp; omega
      go_enter Try.func14, Try.ntmps14
      go_wp2_with fail
      refine HM.out.mono ?_
      rintro e w1 ⟨rfl, rfl⟩
      go_wp2
      go_ret
      exact ⟨rfl, rfl⟩
    · rw [decide_eq_false h]
      have hd : decide ((n : Int) ≤ 512) = false := by simp; omega
      go_enter Try.func14, Try.ntmps14
      go_wp2_with fail
      refine HM.out.mono ?_
      rintro e w1 ⟨rfl, rfl⟩
      go_wp2
      go_ret
      exact ⟨rfl, rfl⟩
end Go.Proofs.Ytkeajfedlhgejaa
