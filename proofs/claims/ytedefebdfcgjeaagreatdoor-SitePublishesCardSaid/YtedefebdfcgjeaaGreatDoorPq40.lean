/- Texts of this claim, packed: SiU. -/
import Derived.Test.YtedefebdfcgjeaaGreatDoorPq36
import Derived.Test.YtedefebdfcgjeaaGreatDoorPq39
/- A turn of a block, done whole by way of a site: four steps, none odd; what stands behind it. -/
namespace Go.Proofs.YtedefebdfcgjeaaGreatDoor
open Go.RowKit Go.Sort Go.Shelf
set_option linter.unusedVariables false
def tnF (k : Nat) : FuncId := if k = 0 then 76 else if k = 1 then 98 else if k = 2 then 115 else 126
def tnS (s : St) (no cls b cl : Nat) : Nat → St
  | 0 => s
  | 1 => s.store (1024 * no) cls
  | 2 => (s.store (1024 * no) cls).store (1024 * no + 8) b
  | 3 => ((s.store (1024 * no) cls).store (1024 * no + 8) b).flush cl (1024 * no)
  | _ => (((s.store (1024 * no) cls).store (1024 * no + 8) b).flush cl (1024 * no)).fence cl
def tnH (hs : List Hd) (i j v b : Nat) (x : Hd) : Nat → List Hd
  | 0 => hs
  | 1 => hs
  | 2 => hs.set i { x with bits := b }
  | 3 => hs.set i { x with bits := b }
  | _ => (hs.set i { x with bits := b }).set i { ({ x with bits := b } : Hd) with bl := x.bl.set j (settled v) }
def tnT (t k : Nat) : Nat := t + min k 4
theorem tnS_tot (s : St) (no cls b cl : Nat) {k : Nat} (h : k ≤ 4) : (tnS s no cls b cl k).tot = tnT s.tot k := by
  unfold tnT
  rcases (by omega : k = 0 ∨ k = 1 ∨ k = 2 ∨ k = 3 ∨ k = 4) with rfl | rfl | rfl | rfl | rfl
  · rfl
  · exact store_tot _ _ _
  · show ((s.store (1024 * no) cls).store (1024 * no + 8) b).tot = s.tot + 2
    rw [store_tot, store_tot]
  · show (((s.store (1024 * no) cls).store (1024 * no + 8) b).flush cl (1024 * no)).tot = s.tot + 3
    rw [flush_tot, store_tot, store_tot]
  · show ((((s.store (1024 * no) cls).store (1024 * no + 8) b).flush cl (1024 * no)).fence cl).tot = s.tot + 4
    rw [fence_tot, flush_tot, store_tot, store_tot]
/-- Behind k steps. -/
def TuI (w : World) (ym : Lay) (y : SLay) (gt cl i j v b : Nat) (s : St) (hs : List Hd) (x : Hd) (P : Nat → Prop) (k : Nat) (W : World) : Prop :=
  k ≤ 4 ∧ ∃ ym' y' fs', Game W ym' (tnS s x.no x.cls b cl k) y' (tnH hs i j v b x k) fs' ∧ TAt W ym' y' gt (cl : Int) i j (tnF k) (decide (k = 4)) 0 ∧ GTurn w W ym ym' y y' gt ∧
    ∀ q, P q → ¬ ym'.fp q ∧ ¬ y'.fp q ∧ q ≠ gt ∧ q ≠ 0 ∧ w.heap.size ≤ q ∧ q < W.heap.size
theorem Game.but {w w' : World} {ym : Lay} {s : St} {y : SLay} {hs : List Hd} {fs : Nat → List Nat} {P : Nat → Prop} (G : Game w ym s y hs fs) (hb : But w w' P) (h1 : ∀ q, P q → ¬ ym.fp q) (h2 : ∀ q, P q → ¬ y.fp q) (h3 : ¬ P 0) : Game w' ym s y hs fs :=
  ⟨G.pm.but hb (fun q hq hp => h1 q hp hq), G.ok, G.mem.keep hb (fun q hq hp => h2 q hp hq), G.ho, G.fo, ⟨G.rs.1.but hb h3, G.rs.2⟩, G.rm, G.size⟩
theorem turn_step {w W : World} {ym : Lay} {y : SLay} {gt cl i j v b k : Nat} {s : St} {hs : List Hd} {x : Hd} {P : Nat → Prop} {f' : FuncId} {d' : Bool} {s' : St} {hs' : List Hd}
    (hk : k + 1 ≤ 4) (hP : ∀ ym' y', GTurn w W ym ym' y y' gt → True) {ym' : Lay} {y' : SLay} (t' : GTurn w W ym ym' y y' gt) (hp : ∀ q, P q → ¬ ym'.fp q ∧ ¬ y'.fp q ∧ q ≠ gt ∧ q ≠ 0 ∧ w.heap.size ≤ q ∧ q < W.heap.size)
    (es : s' = tnS s x.no x.cls b cl (k + 1)) (eh : hs' = tnH hs i j v b x (k + 1)) (ef : f' = tnF (k + 1)) (ed : d' = decide (k + 1 = 4)) (dn : Nat → Bool) (er : Nat → Int) (hd : dn k = d') (he : er k = 0)
    (h : Calls Tryz.prog 15 #[fpt gt] W (StepP W ym' y' gt (cl : Int) i j f' d' s' hs')) :
    Calls Tryz.prog 15 #[fpt gt] W fun e W' => e = .returned (.tuple #[.bool (dn k), .int .i64 (er k)]) ∧ TuI w ym y gt cl i j v b s hs x P (k + 1) W' ∧ But W W' (fun q => ¬ P q) := by
  refine h.mono ?_
  rintro e W' ⟨rfl, ym2, y2, fs2, G2, T2, t2⟩
  subst es eh ef ed
  refine ⟨by rw [hd, he], ⟨hk, ym2, y2, fs2, G2, T2, t'.trans t2, fun q hq => ?_⟩, t2.but.mono fun q hq hpq => ?_⟩
  · obtain ⟨h1, h2, h3, h4, h5, h6⟩ := hp q hq
    refine ⟨fun hf => ?_, fun hf => ?_, h3, h4, h5, Nat.lt_of_lt_of_le h6 t2.but.size⟩
    · rcases t2.fm q hf with h | h
      · exact h1 h
      · omega
    · rcases t2.fy q hf with h | h
      · exact h2 h
      · omega
  · obtain ⟨h1, h2, h3, _⟩ := hp q hpq
    rcases hq with h | h | h
    · exact h1 h
    · exact h2 h
    · exact h3 h
def dnT (k : Nat) : Bool := decide (k = 3)
theorem hd_set {hs : List Hd} {i : Nat} {x z : Hd} (hx : hs[i]? = some x) : (hs.set i z)[i]? = some z := by
  rw [List.getElem?_set, if_pos rfl, if_pos (List.getElem?_eq_some_iff.1 hx).1]
theorem pend_len {s : St} {a u n : Nat} (h : ∀ l ∈ s.pend, l.length ≤ n) : ∀ l ∈ (s.store a u).pend, l.length ≤ n + 1 := by
  intro l hl
  have hl' : l ∈ s.pend.set (a / 64) (s.pend.getD (a / 64) [] ++ [(a, u)]) := hl
  rcases List.mem_or_eq_of_mem_set hl' with h1 | rfl
  · have := h l h1; omega
  · rw [List.length_append, List.getD_eq_getElem?_getD]
    cases hg : s.pend[a / 64]? with
    | none => simp
    | some z => have := h z (List.mem_of_getElem? hg); simp; omega
theorem turn_mach {w : World} {ym : Lay} {s : St} {y : SLay} {hs : List Hd} {fs : Nat → List Nat} {gt i j cl v b : Nat} {x : Hd} (G : Game w ym s y hs fs) (T : TAt w ym y gt (cl : Int) i j 76 false 0) (hg : gt ≠ 0) (hcl : cl ≤ 64)
    (hx : hs[i]? = some x) (hv : x.bl[j]? = some v) (hv0 : v ≠ 0) (hb : x.bits < 18446744073709551616) (hbe : b = bitV v x.bits j) (hd : s.tot < 1000000000000) (hp : ∀ l ∈ s.pend, l.length ≤ 900000000) (hgt : gt < w.heap.size) (hrl : 0 < w.heap.size) :
    Mach w ym.g 15 (fpt gt) 20 (TuI w ym y gt cl i j v b s hs x) (tnT s.tot) dnT (fun _ => 0) := by
  have h0 : s.st < 1000000000000 ∧ s.fl < 1000000000000 ∧ s.fe < 1000000000000 := by unfold St.tot at hd; omega
  refine ⟨fun args W => enters_of Tryz.func15 (by kernel_rfl) rfl args W, by decide, fun k _ => by unfold tnT; omega, fun W P hbw hP => ?_, fun P k W hI => ?_, fun P k W W' hI hbt => ?_, fun P k W hI hk hj => ?_⟩
  · exact ⟨Nat.zero_le _, ym, y, fs, G.below hbw, Row.below (show Row w gt 109 _ from T) hbw hgt, GTurn.of_below ym y gt hbw, fun q hq => ⟨fun hf => by have := G.pm.lt _ hf; have := (hP q hq).1; omega, fun hf => by have := G.mem.lt hf; have := (hP q hq).1; omega, by have := (hP q hq).1; omega, by have := (hP q hq).1; omega, (hP q hq).1, (hP q hq).2⟩⟩
  · obtain ⟨hk, ym', y', fs', G', T', t', hp'⟩ := hI
    exact ⟨ym', _, t'.g, G'.pm, tnS_tot _ _ _ _ _ hk, fun q hq => (hp' q hq).1⟩
  · obtain ⟨hk, ym', y', fs', G', T', t', hp'⟩ := hI
    refine ⟨hk, ym', y', fs', G'.but hbt (fun q hq => (hp' q hq).1) (fun q hq => (hp' q hq).2.1) (fun h => (hp' _ h).2.2.2.1 rfl), hbt.row (show Row W gt 109 _ from T') (fun h => (hp' _ h).2.2.1 rfl), ⟨t'.g, t'.gs, t'.gh, t'.gf, t'.but.trans hbt (fun q hq => .inr (hp' q hq).2.2.2.2.1), t'.fm, t'.fy⟩, fun q hq => ?_⟩
    obtain ⟨a1, a2, a3, a4, a5, a6⟩ := hp' q hq
    exact ⟨a1, a2, a3, a4, a5, Nat.lt_of_lt_of_le a6 hbt.size⟩
  · obtain ⟨hk4, ym', y', fs', G', T', t', hp'⟩ := hI
    have hk3 : k ≤ 3 := by
      rcases Nat.lt_or_ge 3 k with h | h
      · have := (hj 3 h).2
        exact absurd this (by decide)
      · exact h
    rcases (by omega : k = 0 ∨ k = 1 ∨ k = 2 ∨ k = 3) with rfl | rfl | rfl | rfl
    · exact turn_step (by omega) (fun _ _ _ => trivial) t' hp' rfl rfl rfl rfl dnT (fun _ => 0) rfl rfl (step0 G' T' hg hx (by show s.st + 1 < _; omega) (fun l hl => by have := hp l hl; omega))
    · refine turn_step (by omega) (fun _ _ _ => trivial) t' hp' rfl rfl rfl rfl dnT (fun _ => 0) rfl rfl ?_
      have := step1 G' T' hg hx hv hb (by show s.st + 1 + 1 < _; omega) (fun l hl => by have := pend_len hp l hl; omega)
      rw [← hbe] at this
      exact this
    · exact turn_step (by omega) (fun _ _ _ => trivial) t' hp' rfl rfl rfl rfl dnT (fun _ => 0) rfl rfl (step2 (x := { x with bits := b }) G' T' hg hcl (hd_set hx) (by show s.fl + 1 < _; omega))
    · exact turn_step (by omega) (fun _ _ _ => trivial) t' hp' rfl rfl rfl rfl dnT (fun _ => 0) rfl rfl (step3 (x := { x with bits := b }) G' T' hg hcl (hd_set hx) hv hv0 (by show s.fe + 1 < _; omega))
theorem turn_run (t : Nat) : runP (odT (tnT t)) dnT (fun _ => 0) 20 0 false = (4, false, 0) := by
  have od : ∀ k, odT (tnT t) k = false := fun k => by
    unfold odT tnT
    rw [decide_eq_false_iff_not]
    omega
  have e0 := runP_on (od := odT (tnT t)) (dn := dnT) (er := fun _ => (0 : Int)) (f := 19) (k := 0) (o := false) rfl rfl
  have e1 := runP_on (od := odT (tnT t)) (dn := dnT) (er := fun _ => (0 : Int)) (f := 18) (k := 1) (o := false || odT (tnT t) 0) rfl rfl
  have e2 := runP_on (od := odT (tnT t)) (dn := dnT) (er := fun _ => (0 : Int)) (f := 17) (k := 2) (o := (false || odT (tnT t) 0) || odT (tnT t) 1) rfl rfl
  have e3 := runP_done (od := odT (tnT t)) (dn := dnT) (er := fun _ => (0 : Int)) (f := 16) (k := 3) (o := ((false || odT (tnT t) 0) || odT (tnT t) 1) || odT (tnT t) 2) rfl rfl
  refine e0.trans (e1.trans (e2.trans (e3.trans ?_)))
  rw [od, od, od, od]
  rfl
def TuPost (w : World) (ym : Lay) (s : St) (y : SLay) (hs : List Hd) (gt cl i j v b : Nat) (x : Hd) (e : Ending) (w' : World) : Prop :=
  e = .returned (.tuple #[.int .i64 4, .bool false, .int .i64 0]) ∧ ∃ ym' y' fs', Game w' ym' (tnS s x.no x.cls b cl 4) y' (tnH hs i j v b x 4) fs' ∧ GTurn w w' ym ym' y y' gt
theorem turn_whole {w : World} {ym : Lay} {s : St} {y : SLay} {hs : List Hd} {fs : Nat → List Nat} {gt i j cl v b : Nat} {x : Hd} (G : Game w ym s y hs fs) (T : TAt w ym y gt (cl : Int) i j 76 false 0) (hg : gt ≠ 0) (hcl : cl ≤ 64)
    (hx : hs[i]? = some x) (hv : x.bl[j]? = some v) (hv0 : v ≠ 0) (hb : x.bits < 18446744073709551616) (hbe : b = bitV v x.bits j) (hd : s.tot < 1000000000000) (hp : ∀ l ∈ s.pend, l.length ≤ 900000000) (hgt : gt < w.heap.size) (hrl : 0 < w.heap.size) :
    Calls Tryz.prog 14 #[fpt ym.g, .func (.func 15) #[fpt gt] #[], .int .i64 20] w (TuPost w ym s y hs gt cl i j v b x) := by
  refine (whole_any (turn_mach G T hg hcl hx hv hv0 hb hbe hd hp hgt hrl)).mono ?_
  rintro e w' ⟨k, o, c, P, hrun, rfl, ⟨_, ym', y', fs', G', _, t', _⟩, _⟩
  have hr : runP (odT (tnT s.tot)) dnT (fun _ => 0) 20 0 false = (k, o, c) := hrun
  rw [turn_run] at hr
  cases hr
  exact ⟨rfl, ym', y', fs', G', t'⟩
end Go.Proofs.YtedefebdfcgjeaaGreatDoor
