/- Texts of this claim, packed: SpH, SpI, SpT, SpJ, SpK, SpN, SpO, SpQ, SpX, SpMd, SpY, SpP, SpKn, SpNl. -/
import Derived.Test.YtkbklooocdfcfaaGreatDoorPzQ
import Derived.Test.YtkbklooocdfcfaaGreatDoorPz48
import Derived.Test.YtkbklooocdfcfaaGreatDoorPz51
import Derived.Test.YtkbklooocdfcfaaGreatDoorPz47
import Derived.Test.YtkbklooocdfcfaaGreatDoorPz25
import Derived.Test.YtkbklooocdfcfaaGreatDoorPz39
import Derived.Test.YtkbklooocdfcfaaGreatDoorPz49
import Derived.Test.YtkbklooocdfcfaaGreatDoorPz46
import Derived.Test.YtkbklooocdfcfaaGreatDoorPz24
import Derived.Test.YtkbklooocdfcfaaGreatDoorPz22
import Derived.Test.YtkbklooocdfcfaaGreatDoorPz32
set_option linter.unusedVariables false
set_option maxRecDepth 100000
set_option maxHeartbeats 6400000
namespace Go.Proofs.YtkbklooocdfcfaaGreatDoor
open Go.RowKit Go.Sort
section
variable {w0 W W' : World} {ym ym' : Lay} {s s' sE : St} {y : SLay} {hs : List Hd} {fs : Nat -> List Nat} {gm gs gx gh g gr rg n i m c : Nat} {t A : Option Addr} {F : HF} {S : SF} {l : List (Int × Int)} {r : RnRS} {V : Value} {F1 : Nd}
theorem Game.run (G : Game W ym s y hs fs) (hm : MemAt W' ym' s') (ok : s'.Ok) (hn : s'.nl = s.nl) (T : RT W W' ym ym' rg) (hr : Tag W rg 207) (hrm : rg ≠ 0) : Game W' ym' s' y hs fs /\ GTurn W W' ym ym' y y rg := by
 have hlt : 0 < W.heap.size := by
  obtain ⟨t, hR⟩ := G.rs.1
  exact heap_lt hR
 refine ⟨⟨hm, ok, G.mem.keep T.but fun q hq hp => ?_, G.ho, G.fo, ⟨G.rs.1.but T.but fun e => ?_, G.rs.2⟩, fun e => ?_, by rw [hn]; exact G.size⟩, T.g, rfl, rfl, rfl, T.but.mono fun k h => h.elim .inl fun e => .inr (.inr e), T.fp, fun _ h => .inl h⟩
 ·rcases hp with hp | hp
  ·rcases G.mem.tag hq with h | h | h | h | h <;> exact G.pm.apart_tag h (by decide) (by decide) (by decide) (by decide) hp
  ·subst hp
   exact slab_apart G.mem hr (by decide) (by decide) (by decide) (by decide) (by decide) hq
 ·rcases e with e | e
  ·exact G.rm e
  ·exact hrm e.symm
 ·rcases T.fp _ e with h | h
  ·exact G.rm h
  ·omega
theorem EntAt.but {v : Value} {fp : Nat -> Prop} (h : EntAt W v l) (hb : But W W' fp) (hn : ∀ b, v.ownBlock = some b -> ¬ fp b) : EntAt W' v l := by
 obtain ⟨A, cap, rfl, hc⟩ := h
 refine ⟨A, cap, rfl, fun h0 => ?_⟩
 obtain ⟨g, o, rfl, hc2⟩ := hc h0
 refine ⟨g, o, rfl, fun i e he => ?_⟩
 obtain ⟨a, b⟩ := hc2 i e he
 exact ⟨hb.cell a (hn g rfl), hb.cell b (hn g rfl)⟩
structure StOk (W : World) (ym : Lay) (y : SLay) (g gh rg : Nat) (v : Value) (l : List (Int × Int)) : Prop where
 ent : EntAt W v l
 own : ∀ b, v.ownBlock = some b -> b < W.heap.size /\ ¬ ym.fp b /\ ¬ y.fp b /\ b ≠ rg /\ b ≠ g
theorem StOk.below {v : Value} (h : StOk W ym y g gh rg v l) (hb : Below W.heap.size W W') : StOk W' ym y g gh rg v l :=
 ⟨h.ent.low hb, fun b hv => ⟨Nat.lt_of_lt_of_le (h.own b hv).1 hb.size, (h.own b hv).2⟩⟩
theorem StOk.run {v : Value} (h : StOk W ym y g gh rg v l) (T : RT W W' ym ym' rg) : StOk W' ym' y g gh rg v l := by
 refine ⟨h.ent.but T.but fun b hv => ?_, fun b hv => ?_⟩
 ·obtain ⟨_, h2, _, h4, _⟩ := h.own b hv
  rintro (e | e)
  ·exact h2 e
  ·exact h4 e
 ·obtain ⟨h1, h2, h3, h4, h5⟩ := h.own b hv
  exact ⟨Nat.lt_of_lt_of_le h1 T.but.size, T.nfp h1 h2, h3, h4, h5⟩
def RPh (w0 W : World) (y : SLay) (hs : List Hd) (fs : Nat -> List Nat) (gm gs gx gh g gr : Nat) (t : Option Addr) (F : HF) (S : SF) (l : List (Int × Int)) (sE : St) (n i : Nat) : Prop :=
 ∃ ym s r rg V, SpG w0 W ym s y hs fs gm gs gx gh g gr t F S /\ S.un = nextV 79 rg /\ RunOn W ym rg r V /\ RGo s.nl (n + 1) r /\ SOk s i /\ rmem (n + 1) r s = sE /\ w0.heap.size <= rg /\ StOk W ym y g gh rg S.st l
theorem RPh.below (h : RPh w0 W y hs fs gm gs gx gh g gr t F S l sE n i) (hb : Below W.heap.size W W') : RPh w0 W' y hs fs gm gs gx gh g gr t F S l sE n i := by
 obtain ⟨ym, s, r, rg, V, h1, h2, h3, h4, h5, h6, h7, h8⟩ := h
 exact ⟨ym, s, r, rg, V, h1.below hb, h2, ⟨⟨h3.run.row.below hb h3.run.row.lt, h3.run.ah.below hb⟩, h3.sep, h3.vsep⟩, h4, h5, h6, h7, h8.below hb⟩
theorem SpG.wrong (h : SpG w0 W ym s y hs fs gm gs gx gh g gr t F S) : Calls Tryz.prog 10 #[.pointer (some ⟨g, 0, none⟩)] W fun e w' => e = .returned (.int .i64 0) /\ Below W.heap.size W w' := by
 have hA := h.at_
 rw [<- h.hp] at hA
 exact spWrong_any (.inl rfl) h.sp h.mem_ h.size_ (by have := h.game.size; omega) hA
theorem RPh.step (h : SpG w0 W ym s y hs fs gm gs gx gh g gr t F S) (hr : RunOn W ym rg r V) (g1 : r.Good s.nl) (ho : SOk s i) (hi : i <= 900) (hg : w0.heap.size <= rg) (hst : StOk W ym y g gh rg S.st l) :
  Calls Tryz.prog 79 #[.pointer (some ⟨rg, 0, none⟩)] W fun e w' => e = .returned (.tuple #[.bool r.next.done, .int .i64 0]) /\ ∃ ym' V', SpG w0 w' ym' (r.mem s) y hs fs gm gs gx gh g gr t F S /\ RunOn w' ym' rg r.next V' /\ SOk (r.mem s) (i + 1) /\ StOk w' ym' y g gh rg S.st l := by
 refine (rstep_any h.game.pm ho.ok ho.sm (by omega) hr g1).mono ?_
 rintro e w' ⟨rfl, ym', V', hm, hr', T⟩
 have htag : Tag W rg 207 := Row.tag hr.run.row
 have hrl := h.rl
 obtain ⟨G, GT⟩ := h.game.run hm (ho.mem g1 (by omega)).ok (mem_nl r s) T htag (by omega)
 have t1 : Tag W gx 83 := Row.tag h.site
 have t2 : Tag W gh 144 := Row.tag h.ho
 have t3 : Tag W g 33 := Row.tag h.sp
 have t4 : Tag W gr 53 := Row.tag h.row
 exact ⟨rfl, ym', V', h.turn G GT (fun e => absurd (htag.same (e ▸ t1)) (by decide)) (fun e => absurd (htag.same (e ▸ t2)) (by decide)) (fun e => absurd (htag.same (e ▸ t3)) (by decide)) (fun e => absurd (htag.same (e ▸ t4)) (by decide)) hg, hr', ho.mem g1 (by omega), hst.run T⟩
end
theorem call_rStep : ∀ (w : World) (v : Value), (callFunc 79 #[v]).run Tryz.prog w = .ok (.enter 79 #[v]) w := fun w v => enters_of Tryz.func79 (by kernel_rfl) rfl #[v] w
theorem rph_goes {w0 : World} {y : SLay} {hs : List Hd} {fs : Nat -> List Nat} {gm gs gx gh g gr m c rest : Nat} {t A : Option Addr} {F : HF} {S : SF} {l : List (Int × Int)} {sE : St} {F1 : Nd} {E : World -> Prop} (hEb : ∀ W W', E W -> Below W.heap.size W W' -> E W')
  (hd : S.d = false) (hk : S.k = 0) (hrow : S.row = .slice A m c) (hst : ∃ A n c, S.st = .slice A n c) (hat : 0 <= F.at_) (hl : l.length <= 1000) (hwf : ∀ e ∈ l, 0 <= e.1 /\ e.1 < 18446744073709551616) (hap : applyR F.at_ F.n l = (F1, 0)) (hmr : decide (m = 0) = decide (rest = 0)) :
  ∀ (n i : Nat) (W : World), i + n + 1 <= 900 -> RPh w0 W y hs fs gm gs gx gh g gr t F S l sE n i ->
   (∀ W' ym', SpG w0 W' ym' sE y hs fs gm gs gx gh g gr t { F with n := F1 } { S with un := .nilFunc, st := .slice none 0 0, d := decide (m = 0) } -> SOk sE (i + n + 1) -> GoesS g E rest W') -> GoesS g E (rest + n + 1) W := by
 intro n
 induction n with
 | zero =>
  intro i W hi hP hE Wl hb
  obtain ⟨ym, s, r, rg, V, h1, h2, h3, ⟨g1, h4, h4b⟩, h5, h6, h7, h8⟩ := hP.below hb
  refine (spStep_next (D := decide (rest = 0)) (P := fun w' => (∃ s', SpAt w' g s' /\ s'.d = decide (rest = 0) /\ s'.k = 0) /\ GoesS g E rest w') h1.sp hd h1.wrong (fun W1 hb1 => ?_) (fun w' h => h.1) (fun W1 W2 h hb2 => ⟨?_, h.2.below hEb hb2⟩)).mono fun e w' h => ⟨h.1, h.2.2⟩
  ·have q1 := h1.below hb1
   have q3 : RunOn W1 ym rg r V := ⟨⟨h3.run.row.below hb1 h3.run.row.lt, h3.run.ah.below hb1⟩, h3.sep, h3.vsep⟩
   refine (spGoOn_last (s' := S) (P := fun w' => ∃ ym' V', SpG w0 w' ym' (r.mem s) y hs fs gm gs gx gh g gr t F S /\ RunOn w' ym' rg r.next V' /\ SOk (r.mem s) (i + 1) /\ StOk w' ym' y g gh rg S.st l) (Q := fun w' => ∃ ym', SpG w0 w' ym' (r.mem s) y hs fs gm gs gx gh g gr t { F with n := F1 } S /\ SOk (r.mem s) (i + 1)) q1.sp h2 call_rStep ((RPh.step q1 q3 g1 h5 (by omega) h7 (h8.below hb1)).mono fun e w' h => ⟨by rw [h.1, h4]; rfl, h.2⟩) (fun w' ⟨ym', V', h, _⟩ => h.sp) hrow hst (fun w' ⟨ym', V', hg, _, hs2, ho⟩ W2 hb2 => ?_) (fun w' ⟨ym', h, _⟩ => h.sp)).mono ?_
   ·have hg2 := hg.below hb2
    rw [hg.hp]
    refine (hoApply_yes hg2.ho hg.fd hg.fl hg.fk hat (ho.below hb2).ent hl hwf hap).mono ?_
    rintro e w3 ⟨rfl, h9, hb9⟩
    exact ⟨rfl, ym', hg2.hold hb9 h9 hg.fd hg.fl hg.fk, hs2⟩
   ·rintro e w' ⟨rfl, w2, ⟨ym', hg, hs2⟩, hb9, h9⟩
    have h10 := hg.own hb9 h9 rfl rfl
    have e1 : r.mem s = sE := h6
    rw [e1] at h10 hs2
    exact ⟨rfl, ⟨_, h9, hmr, hk⟩, hE w' ym' h10 hs2⟩
  ·obtain ⟨s', a, b, c⟩ := h.1
   exact ⟨s', a.below hb2, b, c⟩
 | succ n ih =>
  intro i W hi hP hE Wl hb
  obtain ⟨ym, s, r, rg, V, h1, h2, h3, ⟨g1, h4, h4b⟩, h5, h6, h7, h8⟩ := hP.below hb
  refine (spStep_next (D := false) (P := fun w' => RPh w0 w' y hs fs gm gs gx gh g gr t F S l sE n (i + 1)) h1.sp hd h1.wrong (fun W1 hb1 => ?_) (fun w' ⟨ym, s, r, rg, V, h, _⟩ => ⟨_, h.sp, hd, hk⟩) (fun W1 W2 h hb2 => h.below hb2)).mono ?_
  ·have q1 := h1.below hb1
   have q3 : RunOn W1 ym rg r V := ⟨⟨h3.run.row.below hb1 h3.run.row.lt, h3.run.ah.below hb1⟩, h3.sep, h3.vsep⟩
   refine spGoOn_more q1.sp h2 call_rStep ((RPh.step q1 q3 g1 h5 (by omega) h7 (h8.below hb1)).mono ?_)
   rintro e w' ⟨rfl, ym', V', a, b, c, d⟩
   exact ⟨by rw [h4, decide_eq_false (by omega)], ym', r.mem s, r.next, rg, V', a, h2, b, by rw [mem_nl]; exact h4b, c, h6, h7, d⟩
  ·rintro e w' ⟨rfl, h⟩
   refine ⟨by rw [decide_eq_false (by omega)], ih (i + 1) w' (by omega) h fun W' ym' h1 h2 => hE W' ym' h1 ?_⟩
   rw [show i + (n + 1) + 1 = i + 1 + n + 1 by omega]
   exact h2
def BegR (w0 : World) (hs : List Hd) (gm gs gx gh g gr : Nat) (t : Option Addr) (F : HF) (S : SF) (l : List (Int × Int)) (sE : St) (n i : Nat) (rg : Nat) (W : World) : Prop :=
 ∃ Vs ym s y fs r V, (∃ A n c, Vs = .slice A n c) /\ SpG w0 W ym s y hs fs gm gs gx gh g gr t F { S with st := Vs } /\ RunOn W ym rg r V /\ RGo s.nl (n + 1) r /\ SOk s i /\ rmem (n + 1) r s = sE /\ w0.heap.size <= rg /\ StOk W ym y g gh rg Vs l /\ ∀ b, V.ownBlock = some b -> b ≠ g
theorem StOk.own_ {W W' : World} {ym : Lay} {y : SLay} {g gh rg : Nat} {v : Value} {l : List (Int × Int)} (h : StOk W ym y g gh rg v l) (hb : But W W' (fun q => q = g)) : StOk W' ym y g gh rg v l :=
 ⟨h.ent.but hb fun b hv => (h.own b hv).2.2.2.2, fun b hv => ⟨Nat.lt_of_lt_of_le (h.own b hv).1 hb.size, (h.own b hv).2⟩⟩
theorem SpAt.inj {W : World} {g : Nat} {s s' : SF} (h : SpAt W g s) (h' : SpAt W g s') : s = s' := by
 have e := (show W.heap[g]? = _ from h).symm.trans (show W.heap[g]? = _ from h')
 obtain ⟨a1, a2, a3, a4, a5, a6, a7, a8, a9, a10⟩ := s
 obtain ⟨b1, b2, b3, b4, b5, b6, b7, b8, b9, b10⟩ := s'
 simpa [SF.cells] using e
theorem RunOn.own_ {W W' : World} {ym : Lay} {g rg : Nat} {r : RnRS} {V : Value} (h : RunOn W ym rg r V) (hb : But W W' (fun q => q = g)) (hg : rg ≠ g) (hv : ∀ b, V.ownBlock = some b -> b ≠ g) : RunOn W' ym rg r V := by
 refine ⟨⟨hb.row h.run.row hg, ?_⟩, h.sep, h.vsep⟩
 by_cases h0 : r.left = []
 ·rcases h.run.ah with h1 | ⟨h1, _⟩
  ·exact .inl h1
  ·exact absurd h0 h1
 ·exact h.run.ah.same fun b hb' => hb.block b (h.run.ah.lt h0 hb') (hv b hb')
theorem first_goes {w0 W : World} {ym : Lay} {s : St} {y : SLay} {hs hs' : List Hd} {fs : Nat -> List Nat} {gm gs gx gh g gr o k c f n i rest : Nat} {t : Option Addr} {F : HF} {S S' : SF} {V2 : Value} {l : List (Int × Int)} {sE : St} {E : World -> Prop}
  (h : SpG w0 W ym s y hs fs gm gs gx gh g gr t F S) (hun : S.un = .nilFunc) (hd : S.d = false) (hrow : S.row = .slice (some ⟨gr, o, none⟩) (k + 1) c) (hf : (rowV g)[o]? = some (nextV f g))
  (hcf : ∀ (w : World) (v : Value), (callFunc f #[v]).run Tryz.prog w = .ok (.enter f #[v]) w) (hsl : ∀ W, (Instr.slice 25 (.slice (some ⟨gr, o, none⟩) (k + 1) c) (some (.int .i64 1)) none none).run Tryz.prog W = .ok V2 W) (hv2 : V2.cells = #[V2]) (hv3 : V2.oneCell' = true) (hr' : S'.row = S.row) (hd' : S'.d = false) (hk' : S'.k = 0) (hi : i + n <= 800)
  (HB : ∀ W1, SpG w0 W1 ym s y hs fs gm gs gx gh g gr t F S -> Calls Tryz.prog f #[.pointer (some ⟨g, 0, none⟩)] W1 fun e w' => ∃ rg, e = .returned (.tuple #[nextV 79 rg, .int .i64 0]) /\ BegR w0 hs' gm gs gx gh g gr t F S' l sE (n + 1) i rg w')
  (HE : ∀ rg Vs y' fs' W', (∃ A n c, Vs = .slice A n c) -> RPh w0 W' y' hs' fs' gm gs gx gh g gr t F { S' with st := Vs, un := nextV 79 rg, row := V2 } l sE n (i + 1) -> GoesS g E rest W') :
  GoesS g E (rest + 1) W \/ rest = 0 := by
 by_cases h0 : rest = 0
 ·exact .inr h0
 refine .inl fun Wl hb => ?_
 have hl := h.below hb
 refine (spStep_next (D := false) (P := fun w' => ∃ rg Vs y' fs', (∃ A n c, Vs = .slice A n c) /\ RPh w0 w' y' hs' fs' gm gs gx gh g gr t F { S' with st := Vs, un := nextV 79 rg, row := V2 } l sE n (i + 1)) hl.sp hd hl.wrong (fun W1 hb1 => ?_) (fun w' ⟨rg, Vs, y', fs', _, ym, s, r, rg', V, h, _⟩ => ⟨_, h.sp, hd', hk'⟩) (fun W1 W2 ⟨rg, Vs, y', fs', hv, h⟩ hb2 => ⟨rg, Vs, y', fs', hv, h.below hb2⟩)).mono ?_
 ·have q1 := hl.below hb1
  have hcell : W1.cell? ⟨gr, o, none⟩ = some (nextV f g) := by
   rw [q1.row.cell o, List.getElem?_toArray]
   exact hf
  refine (spGoOn_first (fu := 79) (P := fun rg w' => BegR w0 hs' gm gs gx gh g gr t F S' l sE (n + 1) i rg w') (Q := fun rg w' => ∃ Vs y' fs', (∃ A n c, Vs = .slice A n c) /\ RPh w0 w' y' hs' fs' gm gs gx gh g gr t F { S' with st := Vs, un := nextV 79 rg, row := V2 } l sE n (i + 1)) q1.sp hun hrow hcell hcf call_rStep hsl hv2 hv3 (HB W1 q1) (fun rg w' ⟨Vs, ym, s, y, fs, r, V, _, h, _⟩ => ⟨_, h.sp, hr'⟩) (fun rg w' W2 s' hp h1 h2 h3 hb3 => ?_)).mono ?_
  ·obtain ⟨Vs, ym, s, y', fs', r, V, hvs, a, b, ⟨g1, c1, c2⟩, d, e, f, st, hv⟩ := hp
   obtain rfl : s' = { S' with st := Vs } := h1.inj a.sp
   have q2 := a.own hb3 h3 rfl rfl
   have hrg : rg ≠ g := fun e1 => absurd ((show Tag w' rg 207 from Row.tag b.run.row).same (e1 ▸ (show Tag w' g 33 from Row.tag a.sp))) (by decide)
   refine (RPh.step q2 (b.own_ hb3 hrg hv) g1 d (by omega) f (st.own_ hb3)).mono ?_
   rintro e2 w4 ⟨rfl, ym4, V4, p1, p2, p3, p4⟩
   exact ⟨by rw [c1, decide_eq_false (by omega)], Vs, y', fs', hvs, ym4, _, _, rg, V4, p1, rfl, p2, by rw [mem_nl]; exact c2, p3, e, f, p4⟩
  ·rintro e w' ⟨rfl, u, Vs, y', fs', h⟩
   exact ⟨rfl, u, Vs, y', fs', h⟩
 ·rintro e w' ⟨rfl, rg, Vs, y', fs', hv, h⟩
  exact ⟨by rw [decide_eq_false h0], HE rg Vs y' fs' w' hv h⟩
theorem call_tStep : ∀ (w : World) (v : Value), (callFunc 43 #[v]).run Tryz.prog w = .ok (.enter 43 #[v]) w := fun w v => enters_of Tryz.func43 (by kernel_rfl) rfl #[v] w
section
variable {w0 W W' : World} {ym : Lay} {s s' : St} {y : SLay} {hs hs' : List Hd} {fs : Nat -> List Nat} {gm gs gx gh g gr gt i j m c f f' : Nat} {t A : Option Addr} {F : HF} {S : SF} {d : Bool} {cl code : Int} {E : World -> Prop}
theorem SpG.tstep (h : SpG w0 W ym s y hs fs gm gs gx gh g gr t F S) (T : TAt W ym y gt cl i j f false code) (hg : w0.heap.size <= gt) (HT : Calls Tryz.prog 43 #[fpt gt] W (StepP W ym y gt cl i j f' d s' hs')) :
  Calls Tryz.prog 43 #[.pointer (some ⟨gt, 0, none⟩)] W fun e w' => e = .returned (.tuple #[.bool d, .int .i64 0]) /\ ∃ ym' y' fs', SpG w0 w' ym' s' y' hs' fs' gm gs gx gh g gr t F S /\ TAt w' ym' y' gt cl i j f' d 0 := by
 refine HT.mono ?_
 rintro e w' ⟨rfl, ym', y', fs', G, T', GT⟩
 have htag : Tag W gt 169 := Row.tag (show Row W gt 169 _ from T)
 have t1 : Tag W gx 83 := Row.tag h.site
 have t2 : Tag W gh 144 := Row.tag h.ho
 have t3 : Tag W g 33 := Row.tag h.sp
 have t4 : Tag W gr 53 := Row.tag h.row
 exact ⟨rfl, ym', y', fs', h.turn G GT (fun e => absurd (htag.same (e ▸ t1)) (by decide)) (fun e => absurd (htag.same (e ▸ t2)) (by decide)) (fun e => absurd (htag.same (e ▸ t3)) (by decide)) (fun e => absurd (htag.same (e ▸ t4)) (by decide)) hg, T'⟩
def TPh (w0 W : World) (hs : List Hd) (gm gs gx gh g gr : Nat) (t : Option Addr) (F : HF) (S : SF) (cl : Int) (i j : Nat) (f : Nat) (s : St) : Prop :=
 ∃ ym y fs gt, SpG w0 W ym s y hs fs gm gs gx gh g gr t F S /\ S.un = nextV 43 gt /\ TAt W ym y gt cl i j f false 0 /\ w0.heap.size <= gt
theorem TPh.below (h : TPh w0 W hs gm gs gx gh g gr t F S cl i j f s) (hb : Below W.heap.size W W') : TPh w0 W' hs gm gs gx gh g gr t F S cl i j f s := by
 obtain ⟨ym, y, fs, gt, h1, h2, h3, h4⟩ := h
 exact ⟨ym, y, fs, gt, h1.below hb, h2, Row.below h3 hb (Row.lt h3), h4⟩
theorem tph_more {rest : Nat} (hd : S.d = false) (hk : S.k = 0) (hr : rest ≠ 0) (h : TPh w0 W hs gm gs gx gh g gr t F S cl i j f s)
  (HT : ∀ W1 ym y fs gt, SpG w0 W1 ym s y hs fs gm gs gx gh g gr t F S -> TAt W1 ym y gt cl i j f false 0 -> w0.heap.size <= gt -> Calls Tryz.prog 43 #[fpt gt] W1 (StepP W1 ym y gt cl i j f' false s' hs'))
  (HE : ∀ W', TPh w0 W' hs' gm gs gx gh g gr t F S cl i j f' s' -> GoesS g E rest W') : GoesS g E (rest + 1) W := by
 intro Wl hb
 obtain ⟨ym, y, fs, gt, h1, h2, h3, h4⟩ := h.below hb
 refine (spStep_next (D := false) (P := fun w' => TPh w0 w' hs' gm gs gx gh g gr t F S cl i j f' s') h1.sp hd h1.wrong (fun W1 hb1 => ?_) (fun w' ⟨ym, y, fs, gt, h, _⟩ => ⟨_, h.sp, hd, hk⟩) (fun W1 W2 h hb2 => h.below hb2)).mono ?_
 ·have q1 := h1.below hb1
  have q3 : TAt W1 ym y gt cl i j f false 0 := Row.below h3 hb1 (Row.lt h3)
  refine spGoOn_more q1.sp h2 call_tStep ((q1.tstep q3 h4 (HT W1 ym y fs gt q1 q3 h4)).mono ?_)
  rintro e w' ⟨rfl, ym', y', fs', a, b⟩
  exact ⟨rfl, ym', y', fs', gt, a, h2, b, h4⟩
 ·rintro e w' ⟨rfl, h⟩
  exact ⟨by rw [decide_eq_false hr], HE w' h⟩
theorem tph_last {rest : Nat} (hEb : ∀ W W', E W -> Below W.heap.size W W' -> E W') (hd : S.d = false) (hk : S.k = 0) (hr : rest ≠ 0) (hm : m ≠ 0) (hrow : S.row = .slice A m c) (hst : S.st = .slice none 0 0) (hat : 0 <= F.at_) (hap : applyR F.at_ F.n [] = (F.n, 0)) (h : TPh w0 W hs gm gs gx gh g gr t F S cl i j f s)
  (HT : ∀ W1 ym y fs gt, SpG w0 W1 ym s y hs fs gm gs gx gh g gr t F S -> TAt W1 ym y gt cl i j f false 0 -> w0.heap.size <= gt -> Calls Tryz.prog 43 #[fpt gt] W1 (StepP W1 ym y gt cl i j f' true s' hs'))
  (HE : ∀ W' ym' y' fs', SpG w0 W' ym' s' y' hs' fs' gm gs gx gh g gr t F { S with un := .nilFunc, st := .slice none 0 0, d := false } -> GoesS g E rest W') : GoesS g E (rest + 1) W := by
 intro Wl hb
 obtain ⟨ym, y, fs, gt, h1, h2, h3, h4⟩ := h.below hb
 refine (spStep_next (D := false) (P := fun w' => (∃ s', SpAt w' g s' /\ s'.d = false /\ s'.k = 0) /\ GoesS g E rest w') h1.sp hd h1.wrong (fun W1 hb1 => ?_) (fun w' h => h.1) (fun W1 W2 h hb2 => ⟨?_, h.2.below hEb hb2⟩)).mono fun e w' h => ⟨by rw [h.1, decide_eq_false hr], h.2.2⟩
 ·have q1 := h1.below hb1
  have q3 : TAt W1 ym y gt cl i j f false 0 := Row.below h3 hb1 (Row.lt h3)
  refine (spGoOn_last (s' := S) (P := fun w' => ∃ ym' y' fs', SpG w0 w' ym' s' y' hs' fs' gm gs gx gh g gr t F S) (Q := fun w' => ∃ ym' y' fs', SpG w0 w' ym' s' y' hs' fs' gm gs gx gh g gr t F S) q1.sp h2 call_tStep ((q1.tstep q3 h4 (HT W1 ym y fs gt q1 q3 h4)).mono fun e w' ⟨he, ym', y', fs', a, b⟩ => ⟨he, ym', y', fs', a⟩) (fun w' ⟨ym', y', fs', h⟩ => h.sp) hrow ⟨_, _, _, hst⟩ (fun w' ⟨ym', y', fs', hg⟩ W2 hb2 => ?_) (fun w' ⟨ym', y', fs', h⟩ => h.sp)).mono ?_
  ·have hg2 := hg.below hb2
   rw [hg.hp, hst]
   refine (hoApply_yes (l := []) (M := F.n) hg2.ho hg.fd hg.fl hg.fk hat ⟨none, 0, rfl, fun h0 => absurd h0 (Nat.lt_irrefl 0)⟩ (Nat.zero_le _) (fun e he => by cases he) hap).mono ?_
   rintro e w3 ⟨rfl, h9, hb9⟩
   exact ⟨rfl, ym', y', fs', hg2.hold hb9 h9 hg.fd hg.fl hg.fk⟩
  ·rintro e w' ⟨rfl, w2, ⟨ym', y', fs', hg⟩, hb9, h9⟩
   rw [decide_eq_false hm] at h9
   have h10 := hg.own hb9 h9 rfl rfl
   exact ⟨rfl, ⟨_, h9, rfl, hk⟩, HE w' ym' y' fs' h10⟩
 ·obtain ⟨s', a, b, c⟩ := h.1
  exact ⟨s', a.below hb2, b, c⟩
end
section
variable {w0 W W' : World} {ym : Lay} {s : St} {y : SLay} {hs : List Hd} {fs : Nat -> List Nat} {gm gs gx gh g gr i j a : Nat} {t : Option Addr} {F : HF} {S : SF}
theorem SpG.publish {x : Hd} {cl : Nat} (h : SpG w0 W ym s y hs fs gm gs gx gh g gr t F S) (hcl : S.cl = (cl : Int)) (hf : fitsM s.nl hs.length (cl : Int) = true) (hx : hs[i]? = some x) (hj : x.bl[j]? = some 1) (ha : adr x.no x.cls j = a) (hto : S.to = (a : Int)) :
  Calls Tryz.prog 15 #[.pointer (some ⟨g, 0, none⟩)] W fun e w' => ∃ gt, e = .returned (.tuple #[nextV 43 gt, .int .i64 0]) /\ ∃ ym' y' fs', SpG w0 w' ym' s y' (hs.set i { x with bl := x.bl.set j 4 }) fs' gm gs gx gh g gr t F S /\ TAt w' ym' y' gt (cl : Int) i j 121 false 0 /\ w0.heap.size <= gt := by
 refine spPublish_any (q := some ⟨gs, 0, none⟩) (m := some ⟨gm, 0, none⟩) (Q := fun gt w' => ∃ ym' y' fs', SpG w0 w' ym' s y' (hs.set i { x with bl := x.bl.set j 4 }) fs' gm gs gx gh g gr t F S /\ TAt w' ym' y' gt (cl : Int) i j 121 false 0 /\ w0.heap.size <= gt) h.sp (fun W1 hb => (h.below hb).slab_) (fun W1 hb => (h.below hb).mem_) (fun W1 hb => ?_) (fun gt w' ⟨_, _, _, h, _⟩ => h.sp)
 have h1 := h.below hb
 have hp := publish_ok h1.game.mem h1.game.ho h1.game.rs h1.game.pm (c := (cl : Int)) hf hx hj ha
 rw [hcl, hto]
 rw [h1.es, h1.eg] at hp
 refine hp.mono ?_
 rintro e w' ⟨gt, rfl, hr, hge, hm, T⟩
 have G := h1.game.onSlab hm (h1.game.ho.set_bl hx) (h1.game.fo.turn hx hj (by decide) (by decide)) (by rw [List.length_set]) T
 have GT := GTurn.of_slab ym W1.heap.size T
 have t1 := Row.lt h1.site
 have t2 := h1.ho.lt
 have t3 := h1.sp.lt
 have t4 := h1.row.lt
 have hs2 := h1.low.size
 refine ⟨gt, rfl, ym, y, fs, h1.turn G GT (by omega) (by omega) (by omega) (by omega) hs2, ?_, by omega⟩
 have := hr
 rw [<- h1.eg] at this
 exact this
theorem own_entS {w : World} {B n : Nat} {e : TypeId} {v : Value} {l : List (Int × Int)} (h : w.ownsRow B e 2 v n (flatE l)) (hn : l.length = n) (h0 : 0 < n) : EntAt w v l := by
 subst hn
 rcases h.2 with ⟨_, h1⟩ | ⟨g', cap', cur', rfl, hb, hh, h2, h3, h4, h5⟩
 ·omega
 ·refine ⟨some ⟨g', 0, none⟩, cap', rfl, fun _ => ⟨g', 0, rfl, fun i e he => ?_⟩⟩
  obtain ⟨f1, f2⟩ := flatE_at l i e he
  have c1 := h.cells rfl _ _ f1
  have c2 := h.cells rfl _ _ f2
  rw [Addr.add_lit, Nat.zero_add] at c1 c2
  rw [Nat.zero_add]
  exact ⟨c1, c2⟩
theorem SpG.memB (h : SpG w0 W ym s y hs fs gm gs gx gh g gr t F S) (hb : But W W' (fun q => q = g)) : Calls Tryz.prog 27 #[.pointer S.si] W' fun e w' => e = .returned (.pointer (some ⟨gm, 0, none⟩)) /\ W' = w' := by
 rw [h.si]
 exact siMem_yes (hb.row h.site h.differ.2.1)
theorem SpG.beg {W0 : World} {V : Value} {rg : Nat} {l : List (Int × Int)} {ln : List (Nat × Nat)} {n k : Nat} {sE : St} (h : SpG w0 W ym s y hs fs gm gs gx gh g gr t F S) (hb0 : Below W.heap.size W W0) (ho : W0.ownsRow W.heap.size 165 2 V ln.length (flat ln)) (hfl : flatE l = flat ln) (hn : ln.length = l.length) (h0 : ln ≠ []) (hg : RGo s.nl (n + 1) (RnRS.new S.cl ln)) (hs1 : SOk s k) (hE : rmem (n + 1) (RnRS.new S.cl ln) s = sE)
  (h1 : ChgP W0 g S (some ⟨gm, 0, none⟩) V ln rg W') : BegR w0 hs gm gs gx gh g gr t F S l sE n k rg W' := by
 obtain ⟨a, ⟨V', hr, hv⟩, hrg, hb⟩ := h1
 have q := (h.below hb0).own hb a rfl rfl
 have hp : 0 < ln.length := List.length_pos_iff.2 h0
 have hsh : ∃ A n c, V = .slice A n c := by
  obtain ⟨A, c, e, _⟩ := (own_ahead ho rfl h0).len
  exact ⟨A, _, c, e⟩
 have hE2 : EntAt W0 V l := by
  rw [<- hfl] at ho
  exact own_entS ho hn.symm hp
 have hlow := hb0.size
 have hlg := h.sp.lt
 refine ⟨V, ym, s, y, fs, _, V', hsh, q, ⟨by rw [<- h.eg] at hr; exact hr, fun hf => ?_, fun b hb' h2 => ⟨fun hf => ?_, (hv b hb' h0).2⟩⟩, hg, hs1, hE, ?_, ⟨hE2.but hb fun b hb' e => ?_, fun b hb' => ?_⟩, fun b hb' e => ?_⟩
 ·have := h.game.pm.lt rg hf
  omega
 ·have := h.game.pm.lt b hf
  have := (hv b hb' h0).1
  omega
 ·have := h.low.size
  omega
 ·have := (ownS_from ho b hb').1
  omega
 ·obtain ⟨c1, c2⟩ := ownS_from ho b hb'
  refine ⟨Nat.lt_of_lt_of_le c2 hb.size, fun hf => ?_, fun hf => ?_, by omega, by omega⟩
  ·have := h.game.pm.lt b hf
   omega
  ·have := h.game.mem.lt hf
   omega
 ·have := (hv b hb' h0).1
  omega
theorem SpG.link_ {l : List (Int × Int)} {ln : List (Nat × Nat)} {n k : Nat} {sE : St} (h : SpG w0 W ym s y hs fs gm gs gx gh g gr t F S) (hP : linkP F.at_ F.n S.to = (l, 0)) (hat : 0 <= F.at_) (hfl : flatE l = flat ln) (hn : ln.length = l.length) (h0 : ln ≠ []) (hl : ln.length <= 1000) (hg : RGo s.nl (n + 1) (RnRS.new S.cl ln)) (hs1 : SOk s k) (hE : rmem (n + 1) (RnRS.new S.cl ln) s = sE) :
  Calls Tryz.prog 16 #[.pointer (some ⟨g, 0, none⟩)] W fun e w' => ∃ rg, e = .returned (.tuple #[nextV 79 rg, .int .i64 0]) /\ BegR w0 hs gm gs gx gh g gr t F S l sE n k rg w' := by
 have hA := h.at_
 rw [<- h.hp] at hA
 refine (spLink_any (m := some ⟨gm, 0, none⟩) h.sp (fun W1 hb => h.memB hb) hA (fun W1 => by rw [<- hP]; exact link_any hat F.n S.to W1) hfl hn h0 hl).mono ?_
 rintro e w' ⟨rg, V, W0, rfl, hb0, ho, h1⟩
 exact ⟨rg, rfl, h.beg hb0 ho hfl hn h0 hg hs1 hE h1⟩
theorem SpG.cut_ {l : List (Int × Int)} {ln : List (Nat × Nat)} {n k : Nat} {sE : St} (h : SpG w0 W ym s y hs fs gm gs gx gh g gr t F S) (hP : cutP F.at_ F.n S.low = (l, 0)) (hat : 0 <= F.at_) (hfl : flatE l = flat ln) (hn : ln.length = l.length) (h0 : ln ≠ []) (hl : ln.length <= 1000) (hg : RGo s.nl (n + 1) (RnRS.new S.cl ln)) (hs1 : SOk s k) (hE : rmem (n + 1) (RnRS.new S.cl ln) s = sE) :
  Calls Tryz.prog 17 #[.pointer (some ⟨g, 0, none⟩)] W fun e w' => ∃ rg, e = .returned (.tuple #[nextV 79 rg, .int .i64 0]) /\ BegR w0 hs gm gs gx gh g gr t F S l sE n k rg w' := by
 have hA := h.at_
 rw [<- h.hp] at hA
 refine (spCut_any (m := some ⟨gm, 0, none⟩) h.sp (fun W1 hb => h.memB hb) hA (fun W1 => by rw [<- hP]; exact cut_any hat F.n S.low W1) hfl hn h0 hl).mono ?_
 rintro e w' ⟨rg, V, W0, rfl, hb0, ho, h1⟩
 exact ⟨rg, rfl, h.beg hb0 ho hfl hn h0 hg hs1 hE h1⟩
end
section
variable {w0 W W' : World} {ym : Lay} {s : St} {y : SLay} {hs : List Hd} {fs : Nat -> List Nat} {gm gs gx gh g gr i j a : Nat} {t : Option Addr} {F : HF} {S : SF}
theorem SpG.write_ {hs1 : List Hd} {k4 : Int} {M : Nd} {lk : List (Int × Int)} {ln : List (Nat × Nat)} {n k : Nat} {sE : St} (h : SpG w0 W ym s y hs fs gm gs gx gh g gr t F S) (hst : S.st = .slice none 0 0)
  (hres : ∀ hsA hsB e, Claimed hs hsA 3 -> Took hsA hsB 3 e -> hsB = hs1 /\ e = .returned (.tuple #[.int .u64 (a : Int), .int .i64 0])) (hlen : hs1.length = hs.length)
  (hes : F.n.es.length = 8) (hl0 : F.n.l = 0) (hk4 : (F.n.es.getD 4 (0, 0)).1 = k4) (hM : makeR (a : Int) 0 k4 F.n.nx (a : Int) (F.n.es.drop 4) = (M, 0)) (hP : linkP F.at_ F.n (a : Int) = (lk, 0)) (hat : 0 <= F.at_) (hto : a <= 1099511627776)
  (hfl : flatE (layL (a : Int) M) = flat ln) (hn : ln.length = 24) (hg : RGo s.nl (n + 1) (RnRS.new S.cl ln)) (hs1' : SOk s k) (hE : rmem (n + 1) (RnRS.new S.cl ln) s = sE) :
  Calls Tryz.prog 14 #[.pointer (some ⟨g, 0, none⟩)] W fun e w' => ∃ rg, e = .returned (.tuple #[nextV 79 rg, .int .i64 0]) /\ BegR w0 hs1 gm gs gx gh g gr t F { S with «to» := (a : Int), low := k4 } [] sE n k rg w' := by
 have hA := h.at_
 rw [<- h.hp] at hA
 have h0 : ln ≠ [] := fun e => by rw [e] at hn; cases hn
 refine (spWrite_leaf (q := some ⟨gs, 0, none⟩) (m := some ⟨gm, 0, none⟩) (Q := fun w' => ∃ y' fs', SpG w0 w' ym s y' hs1 fs' gm gs gx gh g gr t F S) h.sp hA hes hl0 hk4 (fun W1 hb => (h.below hb).slab_) (fun W1 hb => ?_) (fun W1 ⟨_, _, h⟩ => h.sp) hM (fun W1 => by rw [<- hP]; exact link_any hat F.n (a : Int) W1) ⟨by omega, by omega⟩ hfl hn (fun w5 W1 ⟨_, _, h⟩ hb => h.memB hb)).mono ?_
 ·have h1 := h.below hb
  have hr := reserve_any h1.game.mem h1.game.ho h1.game.fo h1.game.rs (c := 3) (by decide) (by decide)
  rw [h1.es] at hr
  refine hr.mono ?_
  rintro e w' ⟨hsA, hsB, y', fs', hc, ht, hm, ho, hfo, T⟩
  obtain ⟨rfl, rfl⟩ := hres hsA hsB e hc ht
  have G := h1.game.onSlab hm ho hfo hlen T
  have GT := GTurn.of_slab ym W1.heap.size T
  have t1 := Row.lt h1.site
  have t2 := h1.ho.lt
  have t3 := h1.sp.lt
  have t4 := h1.row.lt
  exact ⟨rfl, ⟨y', fs', h1.turn G GT (by omega) (by omega) (by omega) (by omega) h1.low.size⟩, T.but.mono fun q hq => h.game.mem.lt hq⟩
 ·rintro e w' ⟨rg, w5, rfl, ⟨y', fs', hq⟩, hb, hsp, hrg, V', hr, hv⟩
  have q := hq.own hb hsp rfl rfl
  refine ⟨rg, rfl, .slice none 0 0, ym, s, y', fs', _, V', ⟨_, _, _, rfl⟩, ?_, ⟨by rw [<- h.eg] at hr; exact hr, fun hf => ?_, fun b hb' h2 => ⟨fun hf => ?_, (hv b hb' h0).2⟩⟩, hg, hs1', hE, ?_, ⟨⟨none, 0, rfl, fun h0 => absurd h0 (Nat.lt_irrefl 0)⟩, fun b hb' => by cases hb'⟩, fun b hb' e => ?_⟩
  ·rw [<- hst]
   exact q
  ·have := hq.game.pm.lt rg hf
   omega
  ·have := hq.game.pm.lt b hf
   have := (hv b hb' h0).1
   omega
  ·have := hq.low.size
   omega
  ·have := (hv b hb' h0).1
   have := hq.sp.lt
   omega
theorem turn_goes {hs' hsB : List Hd} {o k c f f' rest : Nat} {V2 : Value} {s' : St} {cl : Int} {E : World -> Prop}
  (h : SpG w0 W ym s y hs fs gm gs gx gh g gr t F S) (hun : S.un = .nilFunc) (hd : S.d = false) (hk' : S.k = 0) (hrow : S.row = .slice (some ⟨gr, o, none⟩) (k + 1) c) (hf : (rowV g)[o]? = some (nextV f g))
  (hcf : ∀ (w : World) (v : Value), (callFunc f #[v]).run Tryz.prog w = .ok (.enter f #[v]) w) (hsl : ∀ W, (Instr.slice 25 (.slice (some ⟨gr, o, none⟩) (k + 1) c) (some (.int .i64 1)) none none).run Tryz.prog W = .ok V2 W) (hv2 : V2.cells = #[V2]) (hv3 : V2.oneCell' = true) (hr : rest ≠ 0)
  (HB : ∀ W1, SpG w0 W1 ym s y hs fs gm gs gx gh g gr t F S -> Calls Tryz.prog f #[.pointer (some ⟨g, 0, none⟩)] W1 fun e w' => ∃ gt, e = .returned (.tuple #[nextV 43 gt, .int .i64 0]) /\ ∃ ym' y' fs', SpG w0 w' ym' s y' hsB fs' gm gs gx gh g gr t F S /\ TAt w' ym' y' gt cl i j 121 false 0 /\ w0.heap.size <= gt)
  (HT : ∀ W1 ym y fs gt S1, SpG w0 W1 ym s y hsB fs gm gs gx gh g gr t F S1 -> TAt W1 ym y gt cl i j 121 false 0 -> w0.heap.size <= gt -> Calls Tryz.prog 43 #[fpt gt] W1 (StepP W1 ym y gt cl i j f' false s' hs'))
  (HE : ∀ gt W', TPh w0 W' hs' gm gs gx gh g gr t F { S with un := nextV 43 gt, row := V2 } cl i j f' s' -> GoesS g E rest W') : GoesS g E (rest + 1) W := by
 intro Wl hb
 have hl := h.below hb
 refine (spStep_next (D := false) (P := fun w' => ∃ gt, TPh w0 w' hs' gm gs gx gh g gr t F { S with un := nextV 43 gt, row := V2 } cl i j f' s') hl.sp hd hl.wrong (fun W1 hb1 => ?_) (fun w' ⟨gt, ym, y, fs, gt', h, _⟩ => ⟨_, h.sp, hd, hk'⟩) (fun W1 W2 ⟨gt, h⟩ hb2 => ⟨gt, h.below hb2⟩)).mono ?_
 ·have q1 := hl.below hb1
  have hcell : W1.cell? ⟨gr, o, none⟩ = some (nextV f g) := by
   rw [q1.row.cell o, List.getElem?_toArray]
   exact hf
  refine (spGoOn_first (fu := 43) (P := fun gt w' => ∃ ym' y' fs', SpG w0 w' ym' s y' hsB fs' gm gs gx gh g gr t F S /\ TAt w' ym' y' gt cl i j 121 false 0 /\ w0.heap.size <= gt) (Q := fun gt w' => TPh w0 w' hs' gm gs gx gh g gr t F { S with un := nextV 43 gt, row := V2 } cl i j f' s') q1.sp hun hrow hcell hcf call_tStep hsl hv2 hv3 (HB W1 q1) (fun gt w' ⟨_, _, _, h, _⟩ => ⟨S, h.sp, rfl⟩) (fun gt w' W2 s2 hp h1 h2 h3 hb3 => ?_)).mono ?_
  ·obtain ⟨ym', y', fs', a, b, c⟩ := hp
   obtain rfl : s2 = S := h1.inj a.sp
   have q2 := a.own hb3 h3 rfl rfl
   have hgt : gt ≠ g := fun e1 => absurd ((show Tag w' gt 169 from Row.tag (show Row w' gt 169 _ from b)).same (e1 ▸ (show Tag w' g 33 from Row.tag a.sp))) (by decide)
   have b2 : TAt W2 ym' y' gt cl i j 121 false 0 := hb3.row b hgt
   refine (q2.tstep b2 c (HT W2 ym' y' fs' gt _ q2 b2 c)).mono ?_
   rintro e2 w4 ⟨rfl, ym4, y4, fs4, p1, p2⟩
   exact ⟨rfl, ym4, y4, fs4, gt, p1, rfl, p2, c⟩
  ·rintro e w' ⟨rfl, u, h⟩
   exact ⟨rfl, u, h⟩
 ·rintro e w' ⟨rfl, gt, h⟩
  exact ⟨by rw [decide_eq_false hr], HE gt w' h⟩
end
def C8M : Nd := ⟨0, 5, 0, 0, 2304, 5, 6, 7, 8, 0, 0, 0, 0, 1344, 1408, 1472, 1536, 0, 0, 0, 0⟩
def C8N2 : Nd := { C8N with nx := 2304, ct := 2 }
def C8N3 : Nd := ⟨0, 0, 2304, 4, 2112, 1, 2, 3, 4, 5, 6, 7, 8, 1088, 1152, 1216, 1280, 0, 1408, 1472, 1536⟩
def c8l1 : List (Nat × Nat) := (List.range 24).map fun i => (2304 + 8 * i, (wAt (wi C8M) i).toNat)
def c8l2 : List (Nat × Nat) := [(2136, 1), (2128, 2304), (2136, 2)]
def c8l3 : List (Nat × Nat) := [(2136, 3), (2248, 0), (2136, 4)]
def c8i2 : List (Int × Int) := [(2136, 1), (2128, 2304), (2136, 2)]
def c8i3 : List (Int × Int) := [(2136, 3), (2248, 0), (2136, 4)]
theorem c8_es : C8N.es.length = 8 /\ (C8N.es.getD 4 (0, 0)).1 = 5 := by decide +kernel
theorem c8_make : makeR 2304 0 5 C8N.nx 2304 (C8N.es.drop 4) = (C8M, 0) := by kernel_rfl
theorem c8_link : linkP 2112 C8N 2304 = (c8i2, 0) := by decide +kernel
theorem c8_app0 : applyR 2112 C8N [] = (C8N, 0) := by kernel_rfl
theorem c8_app2 : applyR 2112 C8N c8i2 = (C8N2, 0) := by kernel_rfl
theorem c8_cut : cutP 2112 C8N2 5 = (c8i3, 0) := by decide +kernel
theorem c8_app3 : applyR 2112 C8N2 c8i3 = (C8N3, 0) := by kernel_rfl
theorem c8_f1 : flatE (layL 2304 C8M) = flat c8l1 := by rfl
theorem c8_f2 : flatE c8i2 = flat c8l2 := by rfl
theorem c8_f3 : flatE c8i3 = flat c8l3 := by rfl
theorem c8_r1 : RGo 64 30 (RnRS.new 0 c8l1) := rgo_of (new_Good (by decide) (by decide) (by decide) (by decide +kernel)) (by decide +kernel)
theorem c8_r2 : RGo 64 5 (RnRS.new 0 c8l2) := rgo_of (new_Good (by decide) (by decide) (by decide) (by decide +kernel)) (by decide +kernel)
theorem c8_r3 : RGo 64 9 (RnRS.new 0 c8l3) := rgo_of (new_Good (by decide) (by decide) (by decide) (by decide +kernel)) (by decide +kernel)
theorem sl_row0 (gr : Nat) (W : World) : (Instr.slice 25 (.slice (some ⟨gr, 0, none⟩) (3 + 1) 4) (some (.int .i64 1)) none none).run Tryz.prog W = .ok (.slice (some ⟨gr, 1, none⟩) 3 3) W := by
 have hu : Tryz.prog.underlying 25 = some (.slice (Tryz.prog.elem 25)) := by kernel_rfl
 have hz : ∀ W, (sizeOf (Tryz.prog.elem 25)).run Tryz.prog W = .ok 1 W := fun W => by kernel_rfl
 simp [Instr.slice, go_sem, hu, hz]
theorem sl_row1 (gr : Nat) (W : World) : (Instr.slice 25 (.slice (some ⟨gr, 1, none⟩) (2 + 1) 3) (some (.int .i64 1)) none none).run Tryz.prog W = .ok (.slice (some ⟨gr, 2, none⟩) 2 2) W := by
 have hu : Tryz.prog.underlying 25 = some (.slice (Tryz.prog.elem 25)) := by kernel_rfl
 have hz : ∀ W, (sizeOf (Tryz.prog.elem 25)).run Tryz.prog W = .ok 1 W := fun W => by kernel_rfl
 simp [Instr.slice, go_sem, hu, hz]
theorem sl_row2 (gr : Nat) (W : World) : (Instr.slice 25 (.slice (some ⟨gr, 2, none⟩) (1 + 1) 2) (some (.int .i64 1)) none none).run Tryz.prog W = .ok (.slice (some ⟨gr, 3, none⟩) 1 1) W := by
 have hu : Tryz.prog.underlying 25 = some (.slice (Tryz.prog.elem 25)) := by kernel_rfl
 have hz : ∀ W, (sizeOf (Tryz.prog.elem 25)).run Tryz.prog W = .ok 1 W := fun W => by kernel_rfl
 simp [Instr.slice, go_sem, hu, hz]
theorem sl_row3 (gr : Nat) (W : World) : ∃ A, (∀ W, (Instr.slice 25 (.slice (some ⟨gr, 3, none⟩) (0 + 1) 1) (some (.int .i64 1)) none none).run Tryz.prog W = .ok (.slice A 0 0) W) := by
 have hu : Tryz.prog.underlying 25 = some (.slice (Tryz.prog.elem 25)) := by kernel_rfl
 have hz : ∀ W, (sizeOf (Tryz.prog.elem 25)).run Tryz.prog W = .ok 1 W := fun W => by kernel_rfl
 exact ⟨_, fun W => by simp [Instr.slice, go_sem, hu, hz]; rfl⟩
theorem call_spCut : ∀ (w : World) (v : Value), (callFunc 17 #[v]).run Tryz.prog w = .ok (.enter 17 #[v]) w := fun w v => enters_of Tryz.func17 (by kernel_rfl) rfl #[v] w
theorem call_spLink : ∀ (w : World) (v : Value), (callFunc 16 #[v]).run Tryz.prog w = .ok (.enter 16 #[v]) w := fun w v => enters_of Tryz.func16 (by kernel_rfl) rfl #[v] w
section
variable {w0 W : World} {ym : Lay} {s : St} {y : SLay} {hs : List Hd} {fs : Nat -> List Nat} {gm gs gx gh g gr i : Nat} {t : Option Addr} {F : HF} {S : SF} {E : World -> Prop}
theorem cut_goes (hEb : ∀ W W', E W -> Below W.heap.size W W' -> E W') (h : SpG w0 W ym s y hs fs gm gs gx gh g gr t F S) (hun : S.un = .nilFunc) (hd : S.d = false) (hk : S.k = 0) (hrow : S.row = .slice (some ⟨gr, 3, none⟩) (0 + 1) 1) (hcl : S.cl = 0) (hlow : S.low = 5) (hat : F.at_ = 2112) (hn : F.n = C8N2) (hnl : s.nl = 64) (ho : SOk s i) (hi : i <= 200)
  (HE : ∀ W' ym' y' fs' A, SpG w0 W' ym' (rmem 9 (RnRS.new 0 c8l3) s) y' hs fs' gm gs gx gh g gr t { F with n := C8N3 } { S with st := .slice none 0 0, un := .nilFunc, row := .slice A 0 0, d := true } -> SOk (rmem 9 (RnRS.new 0 c8l3) s) (i + 9) -> E W') : GoesS g E 9 W := by
 obtain ⟨A, hsl⟩ := sl_row3 gr W
 have hg : RGo s.nl 9 (RnRS.new S.cl c8l3) := by rw [hnl, hcl]; exact c8_r3
 refine (first_goes (rest := 8) (n := 7) (i := i) (l := c8i3) (S' := S) (hs' := hs) (sE := rmem 9 (RnRS.new S.cl c8l3) s) h hun hd hrow rfl call_spCut hsl rfl rfl rfl hd hk (by omega) (fun W1 h1 => h1.cut_ (by rw [hat, hn, hlow]; exact c8_cut) (by rw [hat]; decide) c8_f3 rfl (by decide) (by decide) hg ho rfl) (fun rg Vs y' fs' W' hv hp => ?_)).resolve_right (by decide)
 exact rph_goes (rest := 0) (m := 0) (c := 0) (A := A) (F1 := C8N3) (S := { S with st := Vs, un := nextV 79 rg, row := .slice A 0 0 }) (l := c8i3) (F := F) (sE := rmem 9 (RnRS.new S.cl c8l3) s) hEb hd hk rfl hv (by show 0 <= F.at_; rw [hat]; decide) (by decide) (by decide) (by rw [hat, hn]; exact c8_app3) rfl 7 (i + 1) W' (by omega) hp fun W2 ym2 q qo => by
  have e1 : rmem 9 (RnRS.new S.cl c8l3) s = rmem 9 (RnRS.new 0 c8l3) s := by rw [hcl]
  rw [e1] at q qo
  rw [show i + 1 + 7 + 1 = i + 9 by omega] at qo
  exact HE W2 ym2 y' fs' A q qo
theorem link_goes (hEb : ∀ W W', E W -> Below W.heap.size W W' -> E W') (h : SpG w0 W ym s y hs fs gm gs gx gh g gr t F S) (hun : S.un = .nilFunc) (hd : S.d = false) (hk : S.k = 0) (hrow : S.row = .slice (some ⟨gr, 2, none⟩) (1 + 1) 2) (hcl : S.cl = 0) (hlow : S.low = 5) (hto : S.to = 2304) (hat : F.at_ = 2112) (hn : F.n = C8N) (hnl : s.nl = 64) (ho : SOk s i) (hi : i <= 150)
  (HE : ∀ W' ym' y' fs' A, SpG w0 W' ym' (rmem 9 (RnRS.new 0 c8l3) (rmem 5 (RnRS.new 0 c8l2) s)) y' hs fs' gm gs gx gh g gr t { F with n := C8N3 } { S with st := .slice none 0 0, un := .nilFunc, row := .slice A 0 0, d := true } -> E W') : GoesS g E 14 W := by
 have hg : RGo s.nl 5 (RnRS.new S.cl c8l2) := by rw [hnl, hcl]; exact c8_r2
 refine (first_goes (rest := 13) (n := 3) (i := i) (l := c8i2) (S' := S) (hs' := hs) (sE := rmem 5 (RnRS.new S.cl c8l2) s) h hun hd hrow rfl call_spLink (sl_row2 gr) rfl rfl rfl hd hk (by omega) (fun W1 h1 => h1.link_ (by rw [hat, hn, hto]; exact c8_link) (by rw [hat]; decide) c8_f2 rfl (by decide) (by decide) hg ho rfl) (fun rg Vs y' fs' W' hv hp => ?_)).resolve_right (by decide)
 exact rph_goes (rest := 9) (m := 1) (c := 1) (A := some ⟨gr, 3, none⟩) (F1 := C8N2) (S := { S with st := Vs, un := nextV 79 rg, row := .slice (some ⟨gr, 3, none⟩) 1 1 }) (l := c8i2) (F := F) (sE := rmem 5 (RnRS.new S.cl c8l2) s) hEb hd hk rfl hv (by show 0 <= F.at_; rw [hat]; decide) (by decide) (by decide) (by rw [hat, hn]; exact c8_app2) rfl 3 (i + 1) W' (by omega) hp fun W2 ym2 q qo => by
  have e1 : rmem 5 (RnRS.new S.cl c8l2) s = rmem 5 (RnRS.new 0 c8l2) s := by rw [hcl]
  rw [e1] at q qo
  exact cut_goes hEb q rfl rfl hk rfl hcl hlow hat rfl ((rmem_nl _ _ _).trans hnl) qo (by omega) fun W3 ym3 y3 fs3 A q3 _ => HE W3 ym3 y3 fs3 A q3
end
theorem call_spPublish : ∀ (w : World) (v : Value), (callFunc 15 #[v]).run Tryz.prog w = .ok (.enter 15 #[v]) w := fun w v => enters_of Tryz.func15 (by kernel_rfl) rfl #[v] w
theorem sok_store {s : St} {i a v : Nat} (h : SOk s i) (hi : i <= 1000) (h8 : a % 8 = 0) (ha : a < 64 * s.nl) (hv : v < 18446744073709551616) : SOk (s.store a v) (i + 1) :=
 h.mem (r := ⟨0, [(a, v)], 0, .st, false, 0⟩) ⟨(show (0 : Int) <= 0 by decide), (show (0 : Int) <= 64 by decide), rfl, rfl, (fun _ e => by cases e), (fun p hp => by rw [show p = (a, v) from List.mem_singleton.1 hp]; exact ⟨h8, ha, hv⟩), rfl, by show 0 < 64 * s.nl; omega⟩ hi
theorem sok_flush {s : St} {i a : Nat} (h : SOk s i) (hi : i <= 1000) (h8 : a % 8 = 0) (ha : a < 64 * s.nl) : SOk (s.flush 0 a) (i + 1) :=
 h.mem (r := ⟨0, [], a, .fl, false, 0⟩) ⟨(show (0 : Int) <= 0 by decide), (show (0 : Int) <= 64 by decide), rfl, rfl, (fun e => by cases e), (fun p hp => by cases hp), h8, ha⟩ hi
theorem sok_fence {s : St} {i : Nat} (h : SOk s i) (hi : i <= 1000) (ha : 0 < s.nl) : SOk (s.fence 0) (i + 1) :=
 h.mem (r := ⟨0, [], 0, .fe, false, 0⟩) ⟨(show (0 : Int) <= 0 by decide), (show (0 : Int) <= 64 by decide), rfl, rfl, (fun e => by cases e), (fun p hp => by cases hp), rfl, by show 0 < 64 * s.nl; omega⟩ hi
def pubS (s : St) : St := (((s.store 2048 3).store 2056 3).flush 0 2048).fence 0
section
variable {w0 W : World} {ym : Lay} {s : St} {y : SLay} {hs : List Hd} {fs : Nat -> List Nat} {gm gs gx gh g gr i : Nat} {t : Option Addr} {F : HF} {S : SF} {E : World -> Prop}
theorem pub_goes (hEb : ∀ W W', E W -> Below W.heap.size W W' -> E W') (h : SpG w0 W ym s y C8H1 fs gm gs gx gh g gr t F S) (hun : S.un = .nilFunc) (hd : S.d = false) (hk : S.k = 0) (hst : S.st = .slice none 0 0) (hrow : S.row = .slice (some ⟨gr, 1, none⟩) (2 + 1) 3) (hcl : S.cl = 0) (hlow : S.low = 5) (hto : S.to = 2304) (hat : F.at_ = 2112) (hn : F.n = C8N) (hnl : s.nl = 64) (ho : SOk s i) (hi : i <= 100)
  (HE : ∀ W' ym' y' fs' A, SpG w0 W' ym' (rmem 9 (RnRS.new 0 c8l3) (rmem 5 (RnRS.new 0 c8l2) (pubS s))) y' C8H3 fs' gm gs gx gh g gr t { F with n := C8N3 } { S with st := .slice none 0 0, un := .nilFunc, row := .slice A 0 0, d := true } -> E W') : GoesS g E 18 W := by
 have o1 := sok_store (a := 2048) (v := 3) ho (by omega) (by decide) (by omega) (by decide)
 have n1 : (s.store 2048 3).nl = 64 := hnl
 have o2 := sok_store (a := 2056) (v := 3) o1 (by omega) (by decide) (by omega) (by decide)
 have n2 : ((s.store 2048 3).store 2056 3).nl = 64 := hnl
 have o3 := sok_flush (a := 2048) o2 (by omega) (by decide) (by omega)
 have n3 : (((s.store 2048 3).store 2056 3).flush 0 2048).nl = 64 := hnl
 have o4 : SOk (pubS s) (i + 1 + 1 + 1 + 1) := sok_fence o3 (by omega) (by omega)
 have n4 : (pubS s).nl = 64 := hnl
 refine turn_goes (rest := 17) (i := 1) (j := 1) (cl := ((0 : Nat) : Int)) (hsB := C8H1.set 1 ⟨2, 3, 1, [2, 4, 0, 0, 0]⟩) (hs' := C8H1.set 1 ⟨2, 3, 1, [2, 4, 0, 0, 0]⟩) (f' := 144) (s' := s.store (1024 * 2) 3) h hun hd hk hrow rfl call_spPublish (sl_row1 gr) rfl rfl (by decide)
  (fun W1 h1 => h1.publish (i := 1) (j := 1) (cl := 0) (x := ⟨2, 3, 1, [2, 1, 0, 0, 0]⟩) (a := 2304) hcl (by rw [hnl]; decide) rfl rfl rfl hto)
  (fun W1 ym y fs gt S1 q T hgt => step0 (cl := 0) (x := ⟨2, 3, 1, [2, 4, 0, 0, 0]⟩) q.game T (by have := q.rl; omega) rfl (by have := ho.sm.st; omega) (fun l hl => by have := ho.sm.pe l hl; omega)) (fun gt W2 hp => ?_)
 refine tph_more (F := F) (S := { S with un := nextV 43 gt, row := .slice (some ⟨gr, 2, none⟩) 2 2 }) (rest := 16) (f' := 167) (hs' := C8H1.set 1 ⟨2, 3, 3, [2, 4, 0, 0, 0]⟩) (s' := (s.store 2048 3).store 2056 3) hd hk (by decide) hp (fun W1 ym y fs gt2 q T hgt => step1 (s := s.store 2048 3) (hs := C8H1.set 1 ⟨2, 3, 1, [2, 4, 0, 0, 0]⟩) (cl := 0) (v := 4) (x := ⟨2, 3, 1, [2, 4, 0, 0, 0]⟩) q.game T (by have := q.rl; omega) rfl rfl (by decide) (by have := o1.sm.st; omega) (fun l hl => by have := o1.sm.pe l hl; omega)) (fun W3 hp3 => ?_)
 refine tph_more (F := F) (S := { S with un := nextV 43 gt, row := .slice (some ⟨gr, 2, none⟩) 2 2 }) (rest := 15) (f' := 180) (hs' := C8H1.set 1 ⟨2, 3, 3, [2, 4, 0, 0, 0]⟩) (s' := ((s.store 2048 3).store 2056 3).flush 0 2048) hd hk (by decide) hp3 (fun W1 ym y fs gt2 q T hgt => step2 (s := (s.store 2048 3).store 2056 3) (hs := C8H1.set 1 ⟨2, 3, 3, [2, 4, 0, 0, 0]⟩) (cl := 0) (x := ⟨2, 3, 3, [2, 4, 0, 0, 0]⟩) q.game T (by have := q.rl; omega) (by decide) rfl (by have := o2.sm.fl; omega)) (fun W4 hp4 => ?_)
 refine tph_last (F := F) (S := { S with un := nextV 43 gt, row := .slice (some ⟨gr, 2, none⟩) 2 2 }) (rest := 14) (m := 2) (c := 2) (A := some ⟨gr, 2, none⟩) (f' := 180) (hs' := C8H3) (s' := pubS s) hEb hd hk (by decide) (by decide) rfl hst (by rw [hat]; decide) (by rw [hat, hn]; exact c8_app0) hp4 (fun W1 ym y fs gt2 q T hgt => step3 (s := ((s.store 2048 3).store 2056 3).flush 0 2048) (hs := C8H1.set 1 ⟨2, 3, 3, [2, 4, 0, 0, 0]⟩) (cl := 0) (v := 4) (x := ⟨2, 3, 3, [2, 4, 0, 0, 0]⟩) q.game T (by have := q.rl; omega) (by decide) rfl rfl (by decide) (by have := o3.sm.fe; omega)) (fun W5 ym5 y5 fs5 q5 => ?_)
 exact link_goes hEb q5 rfl rfl hk rfl hcl hlow hto hat hn n4 o4 (by omega) fun W6 ym6 y6 fs6 A q6 => HE W6 ym6 y6 fs6 A q6
end
theorem call_spWrite : ∀ (w : World) (v : Value), (callFunc 14 #[v]).run Tryz.prog w = .ok (.enter 14 #[v]) w := fun w v => enters_of Tryz.func14 (by kernel_rfl) rfl #[v] w
def spS (s : St) : St := rmem 9 (RnRS.new 0 c8l3) (rmem 5 (RnRS.new 0 c8l2) (pubS (rmem 30 (RnRS.new 0 c8l1) s)))
theorem split_goes {w0 W : World} {ym : Lay} {s : St} {y : SLay} {fs : Nat -> List Nat} {gm gs gx gh g gr i : Nat} {t : Option Addr} {F : HF} {E : World -> Prop} (hEb : ∀ W W', E W -> Below W.heap.size W W' -> E W') (h : SpG w0 W ym s y C8H fs gm gs gx gh g gr t F (SF.new (some ⟨gx, 0, none⟩) 0 (some ⟨gh, 0, none⟩) gr)) (hat : F.at_ = 2112) (hn : F.n = C8N) (hnl : s.nl = 64) (ho : SOk s i) (hi : i <= 60)
  (HE : ∀ W' ym' y' fs' A, SpG w0 W' ym' (spS s) y' C8H3 fs' gm gs gx gh g gr t { F with n := C8N3 } { SF.new (some ⟨gx, 0, none⟩) 0 (some ⟨gh, 0, none⟩) gr with «to» := 2304, low := 5, st := .slice none 0 0, un := .nilFunc, row := .slice A 0 0, d := true } -> E W') : GoesS g E 48 W := by
 have hg : RGo s.nl 30 (RnRS.new 0 c8l1) := by rw [hnl]; exact c8_r1
 refine (first_goes (rest := 47) (n := 28) (i := i) (l := []) (S' := { SF.new (some ⟨gx, 0, none⟩) 0 (some ⟨gh, 0, none⟩) gr with «to» := ((2304 : Nat) : Int), low := 5 }) (hs' := C8H1) (sE := rmem 30 (RnRS.new 0 c8l1) s) h rfl rfl rfl rfl call_spWrite (sl_row0 gr) rfl rfl rfl rfl rfl (by omega)
  (fun W1 h1 => h1.write_ (a := 2304) (M := C8M) (lk := c8i2) (ln := c8l1) rfl (fun hsA hsB e hc ht => c8_took hc ht) rfl (by rw [hn]; exact c8_es.1) (by rw [hn]; rfl) (by rw [hn]; exact c8_es.2) (by rw [hn]; exact c8_make) (by rw [hat, hn]; exact c8_link) (by rw [hat]; decide) (by decide) c8_f1 (by decide) hg ho rfl) (fun rg Vs y' fs' W' hv hp => ?_)).resolve_right (by decide)
 exact rph_goes (rest := 18) (m := 3) (c := 3) (A := some ⟨gr, 1, none⟩) (F1 := C8N) (S := { SF.new (some ⟨gx, 0, none⟩) 0 (some ⟨gh, 0, none⟩) gr with «to» := ((2304 : Nat) : Int), low := 5, st := Vs, un := nextV 79 rg, row := .slice (some ⟨gr, 1, none⟩) 3 3 }) (l := []) (F := F) (sE := rmem 30 (RnRS.new 0 c8l1) s) hEb rfl rfl rfl hv (by rw [hat]; decide) (by decide) (fun e he => by cases he) (by rw [hat, hn]; exact c8_app0) rfl 28 (i + 1) W' (by omega) hp fun W2 ym2 q qo => by
  exact pub_goes hEb q rfl rfl rfl rfl rfl rfl rfl rfl hat rfl ((rmem_nl _ _ _).trans hnl) qo (by omega) fun W3 ym3 y3 fs3 A q3 => HE W3 ym3 y3 fs3 A q3
end Go.Proofs.YtkbklooocdfcfaaGreatDoor
namespace Go.Proofs.YtkbklooocdfcfaaGreatDoor
open Go.RowKit
theorem results_tmp5 {fn : Func} {t1 t2 t3 t4 t5 : Tmp} (h : fn.results = #[.tmp t1, .tmp t2, .tmp t3, .tmp t4, .tmp t5]) (tmps : Array Value) (P : Program) (w : World) :
  (results fn tmps).run P w = .ok (.tuple #[tmps.getD t1 undef, tmps.getD t2 undef, tmps.getD t3 undef, tmps.getD t4 undef, tmps.getD t5 undef]) w := by
 simp [results, h]
def Made17P (w : World) (e : Ending) (w' : World) : Prop :=
 ∃ g gx gh gn ym y t s, e = .returned (.tuple #[.pointer (some ⟨g, 0, none⟩), .pointer (some ⟨gx, 0, none⟩), .int .i64 0, .int .i64 0, .pointer (some ⟨gh, 0, none⟩)]) /\
  Game w' ym s y C8H (fsK (hcW ((List.range 4096).map C8F)) (hbW ((List.range 4096).map C8F)) 3) /\ SiteAt w' gx (some ⟨ym.g, 0, none⟩) (some ⟨y.gs, 0, none⟩) (some ⟨t, 0, none⟩) /\ HoAt w' gh (hfE gx 0 0 2112 gh gn C8N) /\
  (∀ k, ym.fp k -> w.heap.size <= k) /\ (∀ k, y.fp k -> w.heap.size <= k) /\ w.heap.size <= gh /\ w.heap.size <= gx /\ Below w.heap.size w w' /\ s = { C8S with ld := s.ld } /\ s.Ok
theorem c8_len : C8N.len = 8 := by decide +kernel
theorem map_no_cells {w : World} {t b : Nat} {lk : Lk} (h : KAt w t b lk) {k : Nat} {T : TypeId} (ht : Tag w k T) : k ≠ b := fun e => by
 obtain ⟨es, c, hb⟩ := h.mp.map
 obtain ⟨cs, f, ht⟩ := ht
 rw [e, hb] at ht
 cases ht
theorem made17_any {w : World} {gk c : Nat} (R : Rms w) (hK : Row w gk 29 #[.int .u64 1, .int .u64 2, .int .u64 3, .int .u64 4, .int .u64 5, .int .u64 6, .int .u64 7, .int .u64 8]) :
  Calls Tryz.prog 23 #[.agg #[.int .i64 3, .slice (some ⟨gk, 0, none⟩) 8 c, .int .i64 8, .int .i64 0, .int .i64 0, .int .i64 0]] w (Made17P w) := by
 have mixed : Tryz.prog.follows .mixedOrders = true := by kernel_rfl
 have EN := Lib.hid (enters_of Tryz.func58 (by kernel_rfl) rfl)
 obtain ⟨T, S', t1, t2, hG, hd, hk, hn⟩ := c8Snap
 have HSN := Lib.hid (And.intro hG (And.intro hd (And.intro hk hn)))
 have HT := Lib.hid (And.intro t1 t2)
 obtain ⟨W1, hW1⟩ : ∃ W1, W1 = w.alloc (.cells #[.int .i64 3, .slice (some ⟨gk, 0, none⟩) 8 c, .int .i64 8, .int .i64 0, .int .i64 0, .int .i64 0] 67) := ⟨_, rfl⟩
 have hb1 : Below w.heap.size w W1 := by rw [hW1]; exact alloc_below _ _
 have hr1 : Row W1 w.heap.size 67 #[.int .i64 3, .slice (some ⟨gk, 0, none⟩) 8 c, .int .i64 8, .int .i64 0, .int .i64 0, .int .i64 0] := by rw [hW1]; exact Row.new _ _ _
 have hk1 := hK.below hb1 hK.lt
 obtain ⟨gb, hgb⟩ : ∃ gb, gb = w.heap.size := ⟨_, rfl⟩
 have HLAY := Lib.hid (show Calls Tryz.prog 6 #[.agg #[.int .i64 3, .slice (some ⟨gk, 0, none⟩) 8 c, .int .i64 8, .int .i64 0]] W1 (BuildP W1 3 [1, 2, 3, 4, 5, 6, 7, 8]) from
  lay_few (n := 3) (per := 8) (lag := 0) (m := 8) (ks := [1, 2, 3, 4, 5, 6, 7, 8]) (cap := c) rfl (fun k hk => by
   rcases (by omega : k = 0 \/ k = 1 \/ k = 2 \/ k = 3 \/ k = 4 \/ k = 5 \/ k = 6 \/ k = 7) with rfl | rfl | rfl | rfl | rfl | rfl | rfl | rfl
   ·exact hk1.cell 0
   ·exact hk1.cell 1
   ·exact hk1.cell 2
   ·exact hk1.cell 3
   ·exact hk1.cell 4
   ·exact hk1.cell 5
   ·exact hk1.cell 6
   ·exact hk1.cell 7) (fun k => by
   rcases k with _ | _ | _ | _ | _ | _ | _ | _ | k
   ·decide
   ·decide
   ·decide
   ·decide
   ·decide
   ·decide
   ·decide
   ·decide
   ·show (0 : Nat) < _; decide) (fun a b h1 h2 => by
   exact (by decide : ∀ b, b < 8 -> ∀ a, a < b -> ([1, 2, 3, 4, 5, 6, 7, 8] : List Nat).getD a 0 < ([1, 2, 3, 4, 5, 6, 7, 8] : List Nat).getD b 0) b h2 a h1) (by decide) (by decide) (by decide) (by decide) (by decide) (by decide) (by decide) c8Room (by rw [c8T]; decide) (by rw [c8N]; exact c8Wok))
 have HR := Lib.hid R
 have HB1 := Lib.hid hb1
 have HR1 := Lib.hid hr1
 have HW1 := Lib.hid hW1
 have HGB := Lib.hid hgb
 have q0 : W1.cell? ⟨w.heap.size, 0, none⟩ = some (.int .i64 3) := hr1.cell 0
 have q1 : W1.cell? ⟨w.heap.size, 1, none⟩ = some (.slice (some ⟨gk, 0, none⟩) 8 c) := hr1.cell 1
 have q2 : W1.cell? ⟨w.heap.size, 2, none⟩ = some (.int .i64 8) := hr1.cell 2
 have q3 : W1.cell? ⟨w.heap.size, 3, none⟩ = some (.int .i64 0) := hr1.cell 3
 clear hG hd hk hn R hK hW1 hb1 hr1 hk1 t1 t2 hgb
 go_enter Tryz.func23, Tryz.ntmps23
 go_upto_region 1 with fail
 rw [<- HW1.out]
 go_wp2_with fail
 refine HLAY.out.mono ?_
 rintro e w2 ⟨g, gbb, rfl, hg, hgb, hb2, gl, cl, gr, cr, hA, hl, hc, hgl, hgr⟩
 have HAL := Lib.hid (show AL w2 g gl gr cl cr 2112 C8N from ⟨hA.row.cell 7, hl, fun j u hu => hc j u (by rw [c8T, c8N]; exact hu)⟩)
 have hNz : (bZ 3 [1, 2, 3, 4, 5, 6, 7, 8]).N = 4096 := by unfold Ar.N; rw [c8Zn]
 have hrow0 := hA.row.cell 0
 have hbyt := hA.byt
 rw [hNz] at hrow0 hbyt
 rw [c8Zf] at hbyt
 have c0 : w2.cell? ⟨g, 0, none⟩ = some (.slice (some ⟨gbb, 0, none⟩) 4096 4096) := hrow0
 have HB2 := Lib.hid (Below.and HB1.out hb2)
 have HON := Lib.hid (show ∀ W, Below w2.heap.size w2 W -> Calls Tryz.prog 7 #[.slice (some ⟨gbb, 0, none⟩) 4096 4096, .int .i64 2] W (OnSP W 2 4096 3 C8F) from fun W hW =>
  onS_yes (N := 4096) (n := 3) (c := 2) rfl (HR.out.below (Below.and HB2.out hW)) (hbyt.below hW hbyt.lt) c8_byt (by decide) (by decide) (by decide) (by decide) c8Ok)
 have c7 : w2.cell? ⟨g, 7, none⟩ = some (.slice (some ⟨gl, 0, none⟩) 1 cl) := HAL.out.lv
 have c70 : w2.cell? ⟨gl, 0, none⟩ = some (.slice (some ⟨gr, 0, none⟩) 1 cr) := HAL.out.rw_
 have p4 : w2.cell? ⟨w.heap.size, 4, none⟩ = some (.int .i64 0) := (HR1.out.below hb2 HR1.out.lt).cell 4
 have p5 : w2.cell? ⟨w.heap.size, 5, none⟩ = some (.int .i64 0) := (HR1.out.below hb2 HR1.out.lt).cell 5
 rw [<- HGB.out] at p4 p5 ⊢
 clear hA hl hc hgl hgr hg hgb hb2 hNz hrow0 hbyt HLAY HW1 q0 q1 q2 q3 HR1
 have ca := fun q : LowBy w2 => q.cell p4
 have cb := fun q : LowBy w2 => q.cell c7
 go_wp2_with fail
 refine wp_region_quiet_low (by assumption) (by kernel_rfl) ?_
 repeat (go_big_quiet_step (fail))
 refine wpQuiet_nil ?_
 intro _ hw'
 obtain ⟨q, hw''⟩ := hw'
 subst hw''
 have HQ := Lib.hid q.low
 have d7 : q.W.cell? ⟨g, 7, none⟩ = some (.slice (some ⟨gl, 0, none⟩) 1 cl) := q.cell c7
 have d70 : q.W.cell? ⟨gl, 0, none⟩ = some (.slice (some ⟨gr, 0, none⟩) 1 cr) := q.cell c70
 have d5 : q.W.cell? ⟨gb, 5, none⟩ = some (.int .i64 0) := q.cell p5
 have d0 : q.W.cell? ⟨g, 0, none⟩ = some (.slice (some ⟨gbb, 0, none⟩) 4096 4096) := q.cell c0
 clear ca cb c7 c70 p4 p5 c0
 generalize q.W = w3 at *
 have HAL3 := Lib.hid (HAL.out.low HQ.out)
 obtain ⟨kn, hkn⟩ : ∃ kn, kn = C8N := ⟨_, rfl⟩
 have HVR := Lib.hid (show w3.rangeAt gr 1 kn.cl from by rw [hkn]; exact HAL3.out.rng)
 have HLEN := Lib.hid (show Calls Tryz.prog 29 #[kn.V] w3 fun e w' => e = .returned (.int .i64 8) /\ Below w3.heap.size w3 w' from by
  have := r8Len_any kn w3
  rw [hkn, c8_len] at this
  rw [hkn]
  exact this)
 have HON3 := Lib.hid (show ∀ W, Below w3.heap.size w3 W -> Calls Tryz.prog 7 #[.slice (some ⟨gbb, 0, none⟩) 4096 4096, .int .i64 2] W (OnSP W 2 4096 3 C8F) from fun W hW => HON.out W (Below.and HQ.out hW))
 have HB3 := Lib.hid (Below.and HB2.out HQ.out)
 have HKN := Lib.hid hkn
 clear HON HB2 HAL hkn
 go_wp2_with fail
 go_loopw [11] (fun i wr => i = .int .i64 0 /\ wr = w3) (fun _ _ => 0)
 case atStart => exact ⟨rfl, rfl⟩
 case round =>
  rename World => wr
  obtain ⟨rfl, hwr⟩ := hrel
  subst hwr
  go_wp2_with (first
   | ((with_reducible refine show_loadN ?_); refine wpList_load_mid rfl _ _ rfl gr 1 rfl kn.cl _ HVR.out Tryz.underlying71 rfl ndI ?_)
   | (go_at_call 29; refine HLEN.out.mono ?_; rintro e w4 ⟨rfl, hb4⟩; have e0 : w4.cell? ⟨g, 0, none⟩ = some (.slice (some ⟨gbb, 0, none⟩) 4096 4096) := (hb4.cell (p := ⟨g, 0, none⟩) (World.block_lt_of_cell? _ _ d0)).trans d0))
  refine (HON3.out w4 hb4).mono ?_
  rintro e w5 ⟨gx, ym, y, t, b, rfl, hsite, hsm, hsf, hka, ht, hbk, hnt, hnb, hm, hf, hgx, hnx, hb5⟩
  have HM5 := Lib.hid (show MemAt w5 ym C8S from hm)
  rw [c8_hs] at hsm
  have HSM5 := Lib.hid hsm
  have HS5 := Lib.hid hsite
  have HK5 := Lib.hid hka
  have HAP := Lib.hid (And.intro hsf (And.intro ht (And.intro hbk (And.intro hnt (And.intro hnb (And.intro hf (And.intro hgx hnx)))))))
  have hb35 := Below.and hb4 hb5
  have HB5 := Lib.hid (Below.and HB3.out hb35)
  have HSZ := Lib.hid (show w.heap.size <= w4.heap.size from Nat.le_trans HB3.out.size hb4.size)
  have HST := Lib.hid (show ∀ W, Below w5.heap.size w5 W -> W.cell? ⟨gr, 0, none⟩ = some (.int .u64 2112) /\ W.cell? ⟨gr, 2, none⟩ = some (.int .u64 0) from fun W hb => by
   have hA5 := (HAL3.out.low hb35).low hb
   exact ⟨hA5.at_ 0 _ rfl, hA5.at_ 2 _ rfl⟩)
  clear hsite hsm hsf hka ht hbk hnt hnb hm hf hgx hnx hb4 hb5 hb35 e0 d0 d5 d7 d70 HON3 HLEN HVR HAL3 HQ
  go_wp2_with fail
  (try refine wp_region_noPanic ?_)
  refine wp_region_held_drew (S := fun W : World => W.cell? ⟨gr, 0, none⟩ = some (.int .u64 2112) /\ W.cell? ⟨gr, 2, none⟩ = some (.int .u64 0)) (by kernel_rfl) (HST.out _ (drew_below _)) (fun hHeld => ?_)
  refine tkH (i := 0) (oi := ⟨some 76, _, _, _, _, _⟩) (v := .pointer (some ⟨gx, 0, none⟩)) rfl (Or.inl ⟨by kernel_rfl, by intro WW hSw; obtain ⟨s0, s1⟩ := hSw; go_simp⟩) (by assumption) ?_
  (try simp only [Act.put, q1, q2, q3])
  refine tkH (i := 1) (oi := ⟨some 77, _, _, _, _, _⟩) (v := .slice (some ⟨gr, 0, none⟩) 1 cr) rfl (Or.inl ⟨by kernel_rfl, by intro WW hSw; obtain ⟨s0, s1⟩ := hSw; go_simp⟩) (by assumption) ?_
  (try simp only [Act.put, q1, q2, q3])
  refine tkH (i := 2) (oi := ⟨some 78, _, _, _, _, _⟩) (v := .int .i64 0) rfl (Or.inl ⟨by kernel_rfl, by intro WW hSw; obtain ⟨s0, s1⟩ := hSw; go_simp⟩) (by assumption) ?_
  (try simp only [Act.put, q1, q2, q3])
  refine tkH (i := 3) (oi := ⟨some 79, _, _, _, _, _⟩) (v := .pointer (some ⟨gr, 0, none⟩)) rfl (Or.inl ⟨by kernel_rfl, by intro WW hSw; obtain ⟨s0, s1⟩ := hSw; go_simp⟩) (by assumption) ?_
  (try simp only [Act.put, q1, q2, q3])
  refine tkH (i := 4) (oi := ⟨some 80, _, _, _, _, _⟩) (v := .pointer (some ⟨gr, 0, none⟩)) rfl (Or.inl ⟨by kernel_rfl, by intro WW hSw; obtain ⟨s0, s1⟩ := hSw; go_simp⟩) (by assumption) ?_
  (try simp only [Act.put, q1, q2, q3])
  refine tkH (i := 5) (oi := ⟨some 81, _, _, _, _, _⟩) (v := .int .u64 2112) rfl (Or.inl ⟨by kernel_rfl, by intro WW hSw; obtain ⟨s0, s1⟩ := hSw; go_simp⟩) (by assumption) ?_
  (try simp only [Act.put, q1, q2, q3])
  refine tkH (i := 6) (oi := ⟨some 82, _, _, _, _, _⟩) (v := .slice (some ⟨gr, 0, none⟩) 1 cr) rfl (Or.inl ⟨by kernel_rfl, by intro WW hSw; obtain ⟨s0, s1⟩ := hSw; go_simp⟩) (by assumption) ?_
  (try simp only [Act.put, q1, q2, q3])
  refine tkH (i := 7) (oi := ⟨some 83, _, _, _, _, _⟩) (v := .int .i64 0) rfl (Or.inl ⟨by kernel_rfl, by intro WW hSw; obtain ⟨s0, s1⟩ := hSw; go_simp⟩) (by assumption) ?_
  (try simp only [Act.put, q1, q2, q3])
  refine tkH (i := 8) (oi := ⟨some 84, _, _, _, _, _⟩) (v := .pointer (some ⟨gr, 0, none⟩)) rfl (Or.inl ⟨by kernel_rfl, by intro WW hSw; obtain ⟨s0, s1⟩ := hSw; go_simp⟩) (by assumption) ?_
  (try simp only [Act.put, q1, q2, q3])
  refine tkH (i := 9) (oi := ⟨some 85, _, _, _, _, _⟩) (v := .pointer (some ⟨gr, 1, none⟩)) rfl (Or.inl ⟨by kernel_rfl, by intro WW hSw; obtain ⟨s0, s1⟩ := hSw; go_simp⟩) (by assumption) ?_
  (try simp only [Act.put, q1, q2, q3])
  refine tkH (i := 10) (oi := ⟨some 86, _, _, _, _, _⟩) (v := .pointer (some ⟨gr, 2, none⟩)) rfl (Or.inl ⟨by kernel_rfl, by intro WW hSw; obtain ⟨s0, s1⟩ := hSw; go_simp⟩) (by assumption) ?_
  (try simp only [Act.put, q1, q2, q3])
  refine tkH (i := 11) (oi := ⟨some 87, _, _, _, _, _⟩) (v := .int .u64 0) rfl (Or.inl ⟨by kernel_rfl, by intro WW hSw; obtain ⟨s0, s1⟩ := hSw; go_simp⟩) (by assumption) ?_
  (try simp only [Act.put, q1, q2, q3])
  refine wpAnyH_one (i := 12) (oi := ⟨some 88, _, _, _, _, _⟩) rfl (by kernel_rfl) (fun K hK => ?_)
  refine step_calls (by rfl) 58 EN.out [.tmp 76, .const (.int .i64 0), .tmp 81, .tmp 87] _ rfl [.pointer (some ⟨gx, 0, none⟩), .int .i64 0, .int .u64 2112, .int .u64 0] rfl (hoNew_any (some ⟨gx, 0, none⟩) 0 2112 0 _) ?_
  rintro e w6 ⟨gh, rfl, hh, hgh, hb6'⟩
  have hb6 := Below.and (drew_below _) hb6'
  have HB6 := Lib.hid hb6
  have HH6 := Lib.hid hh
  have HGH := Lib.hid (show w5.heap.size <= gh from hgh)
  clear hh hgh hb6 hb6'
  refine ⟨_, rfl, hK _ _ (HST.out _ HB6.out) (fun hHeld => ?_)⟩
  clear hK K
  (try simp only [Act.put, q1, q2, q3])
  refine tkH (i := 13) (oi := ⟨some 14, _, _, _, _, _⟩) (v := .pointer (some ⟨gh, 0, none⟩)) rfl (Or.inl ⟨by kernel_rfl, by intro WW hSw; obtain ⟨s0, s1⟩ := hSw; go_simp⟩) (by assumption) ?_
  (try simp only [Act.put, q1, q2, q3])
  refine wpAnyH_done (by kernel_rfl) ?_ _
  clear hHeld HST
  have hm6 := HM5.out.below HB6.out
  have hs6 : SiteAt w6 gx (some ⟨ym.g, 0, none⟩) (some ⟨y.gs, 0, none⟩) (some ⟨t, 0, none⟩) := Row.below HS5.out HB6.out HS5.out.lt
  have hk6 := HK5.out.below HB6.out
  obtain ⟨a1, a2, a3, a4, a5, a6, a7, a8⟩ := HAP.out
  have hgh := HGH.out
  have hlt5 := HM5.out.lt
  have hk5 := HK5.out.row.lt
  have hk5b := HK5.out.mp.lt
  have hx5 := HS5.out.lt
  have hxt : gx ≠ t /\ gx ≠ b := ⟨fun e => by
   have h1 : Tag w5 gx 83 := Row.tag HS5.out
   have h2 := Row.tag HK5.out.row
   rw [e] at h1
   exact absurd (h1.same h2) (by decide), map_no_cells HK5.out (Row.tag HS5.out)⟩
  have O : HOk w6 ym gh gx t b 0 2 0 2112 T (some ⟨y.gs, 0, none⟩) 0 C8S C8N S' := ⟨hm6, c8_Lds, HH6.out, hk6, hs6, by decide, fun hf => by have := hlt5 _ hf; omega, a4, a5, a8, fun e => by omega, fun e => by omega, fun e => by omega, hxt.1, hxt.2, by decide, by decide, by decide, fun A => ldV_in c8_Lds.ok A, HSN.out.1, HSN.out.2.1, HSN.out.2.2.1, HSN.out.2.2.2, rfl, c8_inv, c8_act, HT.out.1, by have := HT.out; omega⟩
  have HO := Lib.hid O
  have HSM6 := Lib.hid (HSM5.out.below HB6.out)
  have HSF := Lib.hid (show (∀ k, y.fp k -> w.heap.size <= k /\ ¬ (ym.fp k \/ k = gh \/ k = t \/ k = b)) /\ (∀ k, ym.fp k -> w.heap.size <= k) /\ w.heap.size <= gh /\ w.heap.size <= gx /\ w.heap.size <= t /\ w.heap.size <= b from by
   have hsz := HSZ.out
   have hsz5 := HB5.out.size
   refine ⟨fun k hk => ⟨by have := (a1 k hk).1; omega, fun e => ?_⟩, fun k hk => by have := a6 k hk; omega, by omega, by omega, by omega, by omega⟩
   rcases e with e | e | e | e
   ·exact (a1 k hk).2 e
   ·exact slab_apart HSM6.out (k := k) (t := 144) (by rw [e]; exact Row.tag HH6.out) (by decide) (by decide) (by decide) (by decide) (by decide) hk
   ·exact slab_apart HSM5.out (k := k) (t := 186) (by rw [e]; exact Row.tag HK5.out.row) (by decide) (by decide) (by decide) (by decide) (by decide) hk
   ·rcases HSM5.out.tag hk with h | h | h | h | h <;> exact map_no_cells HK5.out h e)
  have HB06 := Lib.hid (Below.and HB5.out HB6.out)
  clear O hm6 hs6 hk6 a1 a2 a3 a4 a5 a6 a7 a8 hgh hlt5 hk5 hk5b hx5 hxt HAP HGH HH6 HM5 HSM5 HS5 HK5 HSN HB5 HB3 HSZ
  go_wp2_with fail
  (try refine (‹∀ (a : Act) (w : World), Code.wp Tryz.prog _ _ a w -> _›) _ _ ?_)
  (try go_wp2_with fail)
  go_loopw [15] (fun i wr => ∃ k : Nat, k <= T /\ i = .int .i64 (k : Int) /\ HKI w6 ym gh gx t b 0 2 0 2112 T 0 C8S k wr) (fun i _ => T + 1 - (intOf i).toNat)
  case atStart => exact ⟨0, Nat.zero_le _, rfl, .inl ⟨rfl, Below.refl _ _⟩⟩
  case round =>
   rename World => wr
   obtain ⟨k, hk, rfl, hI⟩ := hrel
   have HST := Lib.hid (hk_step HO.out hk hI)
   have h400 : (k : Int) < 400 := by have := HT.out; omega
   clear hI
   by_cases hlt : k < T
   ·have HS2 := Lib.hid (HST.out.mono (R' := fun e w' => e = .returned (.tuple #[.bool false, .int .i64 0]) /\ HKI w6 ym gh gx t b 0 2 0 2112 T 0 C8S (k + 1) w') (by
     rintro e w' ⟨rfl, h1, _⟩
     exact ⟨by rw [decide_eq_false (by omega)], h1 hlt⟩))
    clear HST
    go_wp2_with fail
    refine HS2.out.mono ?_
    rintro e w8 ⟨rfl, h8⟩
    have H8 := Lib.hid h8
    clear h8 HS2
    go_wp2
    exact ⟨⟨k + 1, by omega, by go_num, H8.out⟩, by simp [intOf]; omega⟩
   ·obtain rfl : k = T := by omega
    have HS2 := Lib.hid (HST.out.mono (R' := fun e w' => e = .returned (.tuple #[.bool true, .int .i64 0]) /\ HKE w6 ym gh gx t b 2 0 2112 0 C8S C8N w') (by
     rintro e w' ⟨rfl, _, h1⟩
     exact ⟨by rw [decide_eq_true rfl], h1 rfl⟩))
    clear HST hlt hk
    go_wp2_with fail
    refine HS2.out.mono ?_
    rintro e w8 ⟨rfl, gn, y2, s, h8, hk8, hb8, hm8, hyg, hyf, hnl, hse, hok⟩
    have H8 := Lib.hid (And.intro h8 (And.intro hk8 (And.intro hb8 (And.intro hm8 (And.intro hyg (And.intro hyf (And.intro hnl (And.intro hse hok))))))))
    clear h8 hk8 hb8 hm8 hyg hyf hnl hse hok HS2 h400
    go_wp2_with fail
    (try simp only [Exit.inBlock, Exit.then])
    refine bodyPost_ret (results_tmp5 rfl _ _ _) rfl ?_
    obtain ⟨h8, hk8, hb8, hm8, hyg, hyf, hnl, hse, hok⟩ := H8.out
    obtain ⟨f1, f2, f3, f4, f5, f6⟩ := HSF.out
    have hrl : 0 < w.heap.size := by obtain ⟨tt, hR⟩ := HR.out; exact heap_lt hR
    have hsz := HB06.out.size
    have hb08 : Below w.heap.size w w8 := HB06.out.trans (hb8.below hsz fun k hk => by
     rcases hk with h | h | h | h
     ·exact f2 k h
     ·omega
     ·omega
     ·omega)
    refine ⟨g, gx, gh, gn, y2, y, t, s, rfl, ⟨hm8, hok, ?_, ?_, ?_, ⟨HR.out.below hb08, fun h => by have := (f1 _ h).1; omega⟩, fun h => ?_, by rw [hnl]; rfl⟩, ?_, h8, fun k hk => ?_, fun k hk => (f1 k hk).1, f3, f4, hb08, hse, hok⟩
    ·exact HSM6.out.keep hb8 fun k hk => (f1 k hk).2
    ·rw [<- c8_hs]
     exact hsK_ok _ _ _
    ·have := fsK_ok (hcW ((List.range 4096).map C8F)) (hbW ((List.range 4096).map C8F)) 3
     rw [c8_hs] at this
     exact this
    ·rcases hyf _ h with h | h
     ·have := f2 _ h; omega
     ·omega
    ·rw [hyg]
     exact hb8.row HO.out.site fun e => by
      rcases e with e | e | e | e
      ·exact HO.out.nx e
      ·exact HO.out.hx e
      ·exact HO.out.xt e
      ·exact HO.out.xb e
    ·rcases hyf _ hk with h | h
     ·exact f2 _ h
     ·omega
end Go.Proofs.YtkbklooocdfcfaaGreatDoor
namespace Go.Proofs.YtkbklooocdfcfaaGreatDoor
open Go.RowKit Go.Sort
theorem pubS_view (s : St) : (pubS s).view = (s.view.set 256 3).set 257 3 := by rfl
theorem pubS_nl (s : St) : (pubS s).nl = s.nl := by rfl
theorem spS_view {s : St} (hnl : s.nl = 64) : (spS s).view = lastW (lastW (((lastW s.view c8l1).set 256 3).set 257 3) c8l2) c8l3 := by
 have n1 : (rmem 30 (RnRS.new 0 c8l1) s).nl = 64 := (rmem_nl _ _ _).trans hnl
 have n2 : (pubS (rmem 30 (RnRS.new 0 c8l1) s)).nl = 64 := (pubS_nl _).trans n1
 have h1 := rgo_view s c8_r1
 have h2 := rgo_view (pubS (rmem 30 (RnRS.new 0 c8l1) s)) c8_r2
 have h3 := rgo_view (rmem 5 (RnRS.new 0 c8l2) (pubS (rmem 30 (RnRS.new 0 c8l1) s))) c8_r3
 unfold spS
 rw [h3, h2, pubS_view, h1]
 simp only [RnRS.new]
def lkO : List (Nat × Nat) -> Nat -> Option Nat
 | [], _ => none
 | p :: t, j => match lkO t j with
  | some v => some v
  | none => if p.1 / 8 = j then some p.2 else none
theorem lastW_lk {j : Nat} : ∀ (l : List (Nat × Nat)) (V : List Nat), j < V.length -> (lastW V l).getD j 0 = (lkO l j).getD (V.getD j 0)
 | [], V, h => rfl
 | p :: t, V, h => by
  have h1 : (lastW V (p :: t)) = lastW (V.set (p.1 / 8) p.2) t := rfl
  rw [h1, lastW_lk t _ (by rw [List.length_set]; exact h)]
  show _ = (match lkO t j with | some v => some v | none => if p.1 / 8 = j then some p.2 else none).getD (V.getD j 0)
  cases lkO t j with
  | some v => rfl
  | none =>
   show (V.set (p.1 / 8) p.2).getD j 0 = (if p.1 / 8 = j then some p.2 else none).getD (V.getD j 0)
   rw [List.getD_eq_getElem?_getD, List.getElem?_set]
   by_cases e : p.1 / 8 = j
   ·subst e
    simp [h]
   ·rw [if_neg e, if_neg e, List.getD_eq_getElem?_getD]
    rfl
theorem set2_lastW (V : List Nat) : (V.set 256 3).set 257 3 = lastW V [(2048, 3), (2056, 3)] := rfl
theorem c8_lk : ∀ i, i < 24 -> lkO c8l3 (288 + i) = none /\ lkO c8l2 (288 + i) = none /\ lkO [(2048, 3), (2056, 3)] (288 + i) = none /\ lkO c8l1 (288 + i) = some (wAt (wi C8M) i).toNat := by decide +kernel
theorem getD_none {o : Option Nat} {d : Nat} (h : o = none) : o.getD d = d := by rw [h]; rfl
theorem getD_some {o : Option Nat} {d v : Nat} (h : o = some v) : o.getD d = v := by rw [h]; rfl
theorem spS_words {s : St} (hnl : s.nl = 64) (hv : s.view.length = 512) {i : Nat} (hi : i < 24) : (spS s).view.getD (288 + i) 0 = (wAt (wi C8M) i).toNat := by
 obtain ⟨h3, h2, h0, h1⟩ := c8_lk i hi
 rw [spS_view hnl, set2_lastW]
 generalize c8l1 = l1 at *
 generalize c8l2 = l2 at *
 generalize c8l3 = l3 at *
 generalize hl0 : ([(2048, 3), (2056, 3)] : List (Nat × Nat)) = l0 at *
 rw [lastW_lk l3 _ (by rw [lastW_length, lastW_length, lastW_length, hv]; omega), getD_none h3, lastW_lk l2 _ (by rw [lastW_length, lastW_length, hv]; omega), getD_none h2, lastW_lk l0 _ (by rw [lastW_length, hv]; omega), getD_none h0, lastW_lk l1 _ (by rw [hv]; omega), getD_some h1]
theorem spS_len {s : St} (hnl : s.nl = 64) (hv : s.view.length = 512) : (spS s).view.length = 512 := by
 rw [spS_view hnl, set2_lastW]
 generalize c8l1 = l1 at *
 generalize c8l2 = l2 at *
 generalize c8l3 = l3 at *
 rw [lastW_length, lastW_length, lastW_length, lastW_length, hv]
theorem ofB_wb17 {n : Nat} (h : n < 18446744073709551616) : ofB (wbytes n) = n := by
 have e : wbytes n = [wbyt n 0, wbyt n 1, wbyt n 2, wbyt n 3, wbyt n 4, wbyt n 5, wbyt n 6, wbyt n 7] := rfl
 rw [e]
 simp only [ofB, wbyt, Nat.pow_zero, Nat.div_one, Nat.reducePow]
 omega
theorem bytesL_word17 : ∀ (ws : List Nat) (i : Nat) (hi : i < ws.length), ((bytesL ws).drop (8 * i)).take 8 = wbytes ws[i]
 | a :: t, 0, _ => by
  show (wbytes a ++ bytesL t).take 8 = wbytes a
  rw [List.take_append_of_le_length (by rw [wbytes_length]; exact Nat.le_refl _), List.take_of_length_le (by rw [wbytes_length]; exact Nat.le_refl _)]
 | a :: t, i + 1, hi => by
  show ((wbytes a ++ bytesL t).drop (8 * (i + 1))).take 8 = _
  rw [show 8 * (i + 1) = (wbytes a).length + 8 * i by rw [wbytes_length]; omega, List.drop_append, List.drop_of_length_le (by omega), List.nil_append, Nat.add_sub_cancel_left]
  exact bytesL_word17 t i (by simpa using hi)
theorem own_slice17 {w : World} {B n s : Nat} {e : TypeId} {v : Value} {xs : List Value} (h : w.ownsRow B e s v n xs) (hn : 0 < n) : ∃ g cap, v = .slice (some ⟨g, 0, none⟩) n cap /\ ∀ j u, xs[j]? = some u -> w.cell? ((⟨g, 0, none⟩ : Addr).add j) = some u := by
 rcases h.2 with ⟨rfl, h0⟩ | ⟨g, cap, cur, rfl, _⟩
 ·omega
 ·exact ⟨g, cap, rfl, h.cells (g := g) rfl⟩
def bytF (V : List Nat) (q : Nat) : Nat := (bytesL V).getD q 0
theorem bytF_byt (V : List Nat) : BytF (bytF V) := fun q => by
 unfold bytF
 rw [List.getD_eq_getElem?_getD]
 cases h : (bytesL V)[q]? with
 | none => decide
 | some b => exact bytesL_lt V b (List.mem_of_getElem? h)
theorem bytF_word {V : List Nat} {j : Nat} (hj : j < V.length) (hv : V.getD j 0 < 18446744073709551616) : wrdF (bytF V) (8 * j) = V.getD j 0 := by
 have hl := bytesL_length V
 have e : (List.range 8).map (fun k => bytF V (8 * j + k)) = wbytes V[j] := by
  rw [<- bytesL_word17 V j hj]
  apply List.ext_getElem?
  intro k
  rw [List.getElem?_map, List.getElem?_take, List.getElem?_drop]
  by_cases hk : k < 8
  ·rw [List.getElem?_range hk, if_pos hk, Option.map_some]
   unfold bytF
   rw [List.getD_eq_getElem?_getD, List.getElem?_eq_getElem (by omega)]
   rfl
  ·rw [List.getElem?_eq_none (by simp; omega), if_neg hk]
   rfl
 unfold wrdF
 rw [e]
 rw [List.getD_eq_getElem?_getD, List.getElem?_eq_getElem hj] at hv ⊢
 exact ofB_wb17 hv
theorem c8_M : (ofR (wi C8M)).1 = C8M /\ C8M.len = 4 /\ C8N3.len = 4 := by
 refine ⟨?_, by decide +kernel, by decide +kernel⟩
 have hR := (wi_of C8M).2
 rw [if_pos (show isLv C8M = true by decide)] at hR
 rw [hR]
theorem c8_Mw : ∀ i, i < 24 -> 0 <= wAt (wi C8M) i /\ wAt (wi C8M) i < 18446744073709551616 := by decide +kernel
theorem keys17_any (w : World) : Calls Tryz.prog 24 #[] w fun e w' => e = .returned (.slice (some ⟨w.heap.size, 0, none⟩) 8 8) /\ Row w' w.heap.size 29 #[.int .u64 1, .int .u64 2, .int .u64 3, .int .u64 4, .int .u64 5, .int .u64 6, .int .u64 7, .int .u64 8] /\ Below w.heap.size w w' := by
 go_enter Tryz.func24, Tryz.ntmps24
 go_wp2_with fail
 go_ret
 exact ⟨rfl, Row.new _ _ _, alloc_below _ _⟩
def E17 (w1 : World) (s : St) (gm gs gx gh gsp gr gn : Nat) (t : Option Addr) (W : World) : Prop :=
 ∃ ym y fs A, SpG w1 W ym (spS s) y C8H3 fs gm gs gx gh gsp gr t { hfE gx 0 0 2112 gh gn C8N with n := C8N3 } { SF.new (some ⟨gx, 0, none⟩) 0 (some ⟨gh, 0, none⟩) gr with «to» := 2304, low := 5, st := .slice none 0 0, un := .nilFunc, row := .slice A 0 0, d := true }
theorem known17_any {w : World} (R : Rms w) : Calls Tryz.prog 9 #[] w fun e w' => e = .returned (.bool true) /\ Below w.heap.size w w' := by
 have mixed : Tryz.prog.follows .mixedOrders = true := by kernel_rfl
 have HK := Lib.hid (keys17_any w)
 have HR := Lib.hid R
 obtain ⟨gk, hgk⟩ : ∃ gk, gk = w.heap.size := ⟨_, rfl⟩
 rw [<- hgk] at HK
 have HGK := Lib.hid hgk
 clear R hgk
 go_enter Tryz.func9, Tryz.ntmps9
 go_wp2_with fail
 refine HK.out.mono ?_
 rintro e w1 ⟨rfl, hk1, hb1⟩
 have HB1 := Lib.hid (show Below w.heap.size w w1 from by rw [<- HGK.out]; exact hb1)
 have HM := Lib.hid (made17_any (c := 8) (HR.out.below HB1.out) hk1)
 clear hk1 hb1 HK
 go_wp2_with fail
 refine HM.out.mono ?_
 rintro e w2 ⟨g, gx, gh, gn, ym, y, t, s, rfl, hG, hsite, hho, hfm, hfy, hgh, hgx, hb2, hse, hok⟩
 have HG := Lib.hid (And.intro hG (And.intro hsite (And.intro hho (And.intro hfm (And.intro hfy (And.intro hgh (And.intro hgx (And.intro hb2 (And.intro hse hok)))))))))
 have HNEW := Lib.hid (spNew_any (some ⟨gx, 0, none⟩) 0 (some ⟨gh, 0, none⟩) w2)
 clear hG hsite hho hfm hfy hgh hgx hb2 hse hok HM
 go_wp2_with fail
 refine HNEW.out.mono ?_
 rintro e w3 ⟨gsp, gr, rfl, hsp, hrow, hgsp, hgr, hb3⟩
 have HS : Hid (GoesS gsp (E17 w1 s ym.g y.gs gx gh gsp gr gn (some ⟨t, 0, none⟩)) 48 w3) := Lib.hid (by
  obtain ⟨hG, hsite, hho, hfm, hfy, hgh, hgx, hb2, hse, hok⟩ := HG.out
  have hsz := hb2.size
  have hrl : 0 < w1.heap.size := by obtain ⟨tt, hR⟩ := HR.out.below HB1.out; exact heap_lt hR
  have hd : SpG w1 w3 ym s y C8H _ ym.g y.gs gx gh gsp gr (some ⟨t, 0, none⟩) (hfE gx 0 0 2112 gh gn C8N) (SF.new (some ⟨gx, 0, none⟩) 0 (some ⟨gh, 0, none⟩) gr) :=
   ⟨hG.below hb3, rfl, rfl, Row.below hsite hb3 hsite.lt, hho.below hb3, hsp, hrow, rfl, rfl, rfl, rfl, rfl, hfm, hfy, by omega, hgh, hgx, Below.and hb2 hb3, hrl⟩
  have hso : SOk s 0 := by
   refine ⟨hok, ?_, ?_⟩
   ·rw [hse]
    refine ⟨c8_Lds.num.2.1, c8_Lds.num.2.2.1, c8_Lds.num.2.2.2, fun l hl => ?_⟩
    obtain ⟨j, hj, rfl⟩ := List.mem_iff_getElem.1 hl
    have := c8_Lds.few j
    rw [List.getD_eq_getElem?_getD, List.getElem?_eq_getElem hj] at this
    exact this
   ·rw [hse]
    exact c8_Lds.pl
  exact split_goes (i := 0) (fun W W' h hb => by obtain ⟨ym, y, fs, A, h⟩ := h; exact ⟨ym, y, fs, A, h.below hb⟩) hd rfl rfl (by rw [hse]; rfl) hso (by decide) fun W' ym' y' fs' A q => ⟨ym', y', fs', A, q⟩)
 have HSE := Lib.hid (And.intro HG.out.2.2.2.2.2.2.2.2 (HR.out.below HB1.out))
 clear hsp hrow hgsp hgr hb3 HNEW HG
 go_wp2_with fail
 go_loopw [7] (fun i wr => ∃ n : Nat, n <= 47 /\ i = .int .i64 (47 - (n : Int)) /\ GoesS gsp (E17 w1 s ym.g y.gs gx gh gsp gr gn (some ⟨t, 0, none⟩)) (n + 1) wr) (fun i _ => 48 - (intOf i).toNat)
 case atStart => exact ⟨47, Nat.le_refl _, rfl, HS.out⟩
 case round =>
  rename World => wr
  obtain ⟨n, hn, rfl, hg⟩ := hrel
  have h400 : (47 : Int) - (n : Int) < 400 := by omega
  cases n with
  | succ n =>
   have HST := Lib.hid (show Calls Tryz.prog 4 #[.pointer (some ⟨gsp, 0, none⟩)] wr fun e w' => e = .returned (.tuple #[.bool false, .int .i64 0]) /\ GoesS gsp (E17 w1 s ym.g y.gs gx gh gsp gr gn (some ⟨t, 0, none⟩)) (n + 1) w' from hg wr (Below.refl _ _))
   clear hg
   go_wp2_with fail
   refine HST.out.mono ?_
   rintro e w8 ⟨rfl, h8⟩
   have H8 := Lib.hid h8
   clear h8 HST
   go_wp2
   exact ⟨⟨n, by omega, by go_num, H8.out⟩, by simp [intOf]; omega⟩
  | zero =>
   have HST := Lib.hid (show Calls Tryz.prog 4 #[.pointer (some ⟨gsp, 0, none⟩)] wr fun e w' => e = .returned (.tuple #[.bool true, .int .i64 0]) /\ E17 w1 s ym.g y.gs gx gh gsp gr gn (some ⟨t, 0, none⟩) w' from hg wr (Below.refl _ _))
   clear hg hn
   go_wp2_with fail
   refine HST.out.mono ?_
   rintro e w8 ⟨rfl, ym8, y8, fs8, A8, h8⟩
   have H8 := Lib.hid h8
   have HMD := Lib.hid (spMade_yes h8.sp rfl rfl)
   clear h8 HST
   go_wp2_with fail
   refine HMD.out.mono ?_
   rintro e w9 ⟨rfl, hb9⟩
   have h9 := H8.out.below hb9
   obtain ⟨kn, hkn⟩ : ∃ kn, kn = C8N3 := ⟨_, rfl⟩
   have HAT := Lib.hid (show Calls Tryz.prog 25 #[.pointer (some ⟨gh, 0, none⟩)] w9 fun e w' => e = .returned (.tuple #[.int .u64 2112, kn.V, .int .i64 0]) /\ Below w9.heap.size w9 w' from by rw [hkn]; exact h9.at_)
   have H9 := Lib.hid h9
   have HKN := Lib.hid hkn
   clear hb9 h9 hkn HMD H8
   go_wp2_with fail
   refine HAT.out.mono ?_
   rintro e w10 ⟨rfl, hb10⟩
   have HB10 := Lib.hid hb10
   clear hb10 HAT
   go_upto_region 14 with (first
    | ((with_reducible refine show_storeN ?_); refine wpList_store_row rfl _ _ _ rfl w10.heap.size kn.cl rfl rfl (Row.new w10 71 zeroNd.cl.toArray) rfl ndI (cl_one _) ?_))
   obtain ⟨W11, hW11, hn11, hb11⟩ := store_ndH w10 kn
   rw [<- hW11]
   have hb911 := Below.and HB10.out hb11
   have h11 := H9.out.below hb911
   have HMM := Lib.hid (show Calls Tryz.prog 27 #[.pointer (some ⟨gx, 0, none⟩)] W11 fun e w' => e = .returned (.pointer (some ⟨ym.g, 0, none⟩)) /\ W11 = w' from h11.mem_)
   have hnl : s.nl = 64 := by rw [HSE.out.1.1]; rfl
   have hvl : s.view.length = 512 := by rw [HSE.out.1.1]; exact c8_Lds.vl
   have HVW := Lib.hid (show Calls Tryz.prog 28 #[.pointer (some ⟨ym.g, 0, none⟩)] W11 (BytesPost W11 (bytesL (spS s).view)) from by
    have := view_yes h11.game.pm h11.game.ok.vie
    rw [h11.eg] at this
    exact this)
   have hsl := spS_len hnl hvl
   have HBL := Lib.hid (show (bytesL (spS s).view).length = 4096 by rw [bytesL_length, hsl])
   obtain ⟨VW, hVW⟩ : ∃ VW, VW = (spS s).view := ⟨_, rfl⟩
   have HRD := Lib.hid (show ∀ (W : World) (gv cv : Nat), (∀ q, q < 4096 -> W.cell? ⟨gv, q, none⟩ = some (bv (bytF VW q))) -> Calls Tryz.prog 26 #[.slice (some ⟨gv, 0, none⟩) 4096 cv, .int .u64 2304] W fun e w' => e = .returned C8M.V /\ Below W.heap.size W w' from fun W gv cv hc => by
    have := ref17Read_any (w := W) (gb := gv) (N := 4096) (c := cv) (a := 2304) (f := bytF VW) (x := wi C8M) hc (bytF_byt VW) (by decide) (by decide) (wi_len C8M) (fun i hi => by
     have h1 := c8_Mw i hi
     have h2 := spS_words hnl hvl hi
     rw [<- hVW] at h2
     rw [show 2304 + 8 * i = 8 * (288 + i) by omega, bytF_word (by rw [hVW, hsl]; omega) (by rw [h2]; omega), h2]
     omega)
    rw [c8_M.1] at this
    exact this)
   rw [<- hVW] at HVW HBL
   obtain ⟨mn, hmn⟩ : ∃ mn, mn = C8M := ⟨_, rfl⟩
   rw [<- hmn] at HRD
   have HMN := Lib.hid hmn
   have H11 := Lib.hid (show Below w.heap.size w W11 from Below.and HB1.out h11.low)
   have HN11 := Lib.hid hn11
   obtain ⟨g13, hg13⟩ : ∃ g13, g13 = w10.heap.size := ⟨_, rfl⟩
   rw [<- hg13] at HN11 ⊢
   clear hW11 hn11 hb11 hb911 h11 hnl hvl hsl hVW hmn H9 HB10 HSE hg13
   go_wp2_with fail
   refine HMM.out.mono ?_
   rintro e w12 ⟨rfl, hw12⟩
   subst hw12
   clear HMM
   go_wp2_with fail
   refine HVW.out.mono ?_
   rintro e w13 ⟨⟨v, rfl, ho⟩, hb13⟩
   rw [HBL.out] at ho
   obtain ⟨gv, cv, rfl, hcv⟩ := own_slice17 ho (by decide)
   have HRD2 := Lib.hid (HRD.out w13 gv cv fun q hq => by
    have h1 := hcv q (bv (bytF VW q)) (by
     rw [List.getElem?_map, List.getElem?_eq_getElem (by rw [HBL.out]; exact hq)]
     unfold bytF
     rw [List.getD_eq_getElem?_getD, List.getElem?_eq_getElem (by rw [HBL.out]; exact hq)]
     rfl)
    rw [Addr.add_lit, Nat.zero_add] at h1
    exact h1)
   have HB13 := Lib.hid hb13
   clear ho hcv hb13 HVW HRD HBL
   go_wp2_with fail
   refine HRD2.out.mono ?_
   rintro e w14 ⟨rfl, hb14⟩
   have HB14 := Lib.hid (Below.and HB13.out hb14)
   clear hb14 HRD2 HB13
   go_upto_region 15 with (first
    | ((with_reducible refine show_storeN ?_); refine wpList_store_row rfl _ _ _ rfl w14.heap.size mn.cl rfl rfl (Row.new w14 71 zeroNd.cl.toArray) rfl ndI (cl_one _) ?_))
   obtain ⟨W15, hW15, hn15, hb15⟩ := store_ndH w14 mn
   rw [<- hW15]
   obtain ⟨g16, hg16⟩ : ∃ g16, g16 = w14.heap.size := ⟨_, rfl⟩
   rw [<- hg16] at hn15 ⊢
   have hb1115 := Below.and HB14.out hb15
   have hn13 := Row.below HN11.out hb1115 (Row.lt HN11.out)
   have HL1 := Lib.hid (show ∀ W, Calls Tryz.prog 29 #[kn.V] W fun e w' => e = .returned (.int .i64 4) /\ Below W.heap.size W w' from fun W => by
    have := r8Len_any kn W
    rw [HKN.out, c8_M.2.2] at this
    rw [HKN.out]
    exact this)
   have HL2 := Lib.hid (show ∀ W, Calls Tryz.prog 29 #[mn.V] W fun e w' => e = .returned (.int .i64 4) /\ Below W.heap.size W w' from fun W => by
    have := r8Len_any mn W
    rw [HMN.out, c8_M.2.1] at this
    rw [HMN.out]
    exact this)
   have HC13 := Lib.hid (show ∀ W, Below W15.heap.size W15 W -> NdAt W g13 kn /\ W.cell? ⟨g13, 2, none⟩ = some (.int .u64 2304) from fun W hb => by
    have h := Row.below hn13 hb (Row.lt hn13)
    refine ⟨h, ?_⟩
    have h2 := h.cell 2
    rw [HKN.out] at h2
    exact h2)
   have HC16 := Lib.hid (show ∀ W, Below W15.heap.size W15 W -> NdAt W g16 mn /\ W.cell? ⟨g16, 1, none⟩ = some (.int .u64 5) /\ W.cell? ⟨g16, 5, none⟩ = some (.int .u64 5) from fun W hb => by
    have h := Row.below hn15 hb (Row.lt hn15)
    have h1 := h.cell 1
    have h2 := h.cell 5
    rw [HMN.out] at h1 h2
    exact ⟨h, h1, h2⟩)
   have HB15 := Lib.hid (Below.and H11.out hb1115)
   have HN13 := Lib.hid hn13
   clear hW15 hn15 hb15 hg16 hb1115 hn13 HN11 HB14 H11
   go_wp2_with (first
    | ((with_reducible refine show_loadN ?_); have hq := HBA.out; refine wpList_load_midg (by rfl) _ _ rfl g16 0 rfl mn.cl _ (ndR (HC16.out _ HBA.out).1) Tryz.underlying71 rfl ndI ?_)
    | ((with_reducible refine show_loadN ?_); refine wpList_load_midg (by rfl) _ _ rfl g13 0 rfl kn.cl _ (ndR HN13.out) Tryz.underlying71 rfl ndI ?_)
    | (go_at_call 29; have hq := HBA.out; refine (HL2.out _).mono ?_; rintro e wB ⟨rfl, hbB⟩; have HBB := Lib.hid (Below.and HBA.out hbB); clear hbB; obtain ⟨_, f1, f5⟩ := HC16.out _ HBB.out)
    | (go_at_call 29; refine (HL1.out _).mono ?_; rintro e wA ⟨rfl, hbA⟩; have HBA := Lib.hid hbA; clear hbA; obtain ⟨_, f2⟩ := HC13.out _ HBA.out))
   go_ret
   exact ⟨rfl, Below.and HB15.out HBB.out⟩
end Go.Proofs.YtkbklooocdfcfaaGreatDoor
namespace Go.Proofs.YtkbklooocdfcfaaGreatDoor
open Go.RowKit Go.Sort
attribute [local go_sem] Oper.semAt_some
theorem spStep_nosite {w : World} {g : Nat} {s : SF} (h : SpAt w g s) (hd : s.d = false) (hs : s.si = none) (ht : s.to = 0) :
  Calls Tryz.prog 4 #[.pointer (some ⟨g, 0, none⟩)] w fun e w' => e = .returned (.tuple #[.bool true, .int .i64 1]) /\ SpAt w' g { s with d := true, k := 1 } /\ But w w' (fun q => q = g) :=
 spStep_wrong (q0 := none) (r := .int .i64 1) h hd (by decide) ((spWrong_none (m := none) h (by rw [hs]; exact siMem_nil w) (size_no (.inl rfl))).mono fun e w' ⟨he, hw⟩ => ⟨he, by rw [<- hw]; exact Below.refl _ _⟩)
  (fun W hb => by rw [hs]; exact siSlab_nil W)
  (fun W hb => by rw [ht]; exact (release_none (.inl rfl) 0).mono fun e w' ⟨he, hw⟩ => ⟨he, by rw [<- hw]; exact Below.refl _ _⟩)
theorem spStep_nohold {w : World} {g gx : Nat} {ym : Lay} {y : SLay} {hs : List Hd} {fs : Nat -> List Nat} {t : Option Addr} {st : St} {s : SF} (h : SpAt w g s) (hd : s.d = false) (hsi : s.si = some ⟨gx, 0, none⟩) (hh : s.ho = none) (ht : s.to = 0)
  (hm : MemAt w ym st) (hnl : 0 < st.nl) (hx : SiteAt w gx (some ⟨ym.g, 0, none⟩) (some ⟨y.gs, 0, none⟩) t) (hne : gx ≠ g) (S : SlabMem w y hs fs) (ok : HsOk hs) (fo : FsOk hs fs) (R : RS w y) (hr : 0 ≠ g) (hny : ¬ y.fp g) :
  Calls Tryz.prog 4 #[.pointer (some ⟨g, 0, none⟩)] w fun e w' => e = .returned (.tuple #[.bool true, .int .i64 1]) /\ SpAt w' g { s with d := true, k := 1 } /\ But w w' (fun q => q = g) :=
 spStep_wrong (q0 := some ⟨y.gs, 0, none⟩) (r := .int .i64 7) h hd (by decide)
  (spWrong_any (n := zeroNd) (a := 0) (k := 1) (.inr rfl) h (by rw [hsi]; exact siMem_yes hx) (size_yes hm) (by omega) (by rw [hh]; exact hoAt_no (by decide) fun W hb => (hoRefusal_nil W).mono fun e w' ⟨he, hw⟩ => ⟨he, by rw [<- hw]; exact Below.refl _ _⟩))
  (fun W hb => by rw [hsi]; exact siSlab_yes (hb.row hx hne))
  (fun W hb => by
   rw [ht]
   have S2 := S.keep hb fun k hk e => hny (e ▸ hk)
   refine (release_any S2 ok fo ⟨R.1.but hb hr, R.2⟩ 0).mono fun e w' hp => ?_
   rcases hp with ⟨i, j, x, y', fs', hx', hb', ha, _⟩ | ⟨_, he, hw⟩
   ·have := (ok i x hx').1
    unfold adr at ha
    omega
   ·exact ⟨he, hw⟩)
theorem splitNil_any (w : World) (R : Rms w) : Calls Tryz.prog 3 #[] w fun e w' => e = .returned (.bool true) /\ Below w.heap.size w w' := by
 have mixed : Tryz.prog.follows .mixedOrders = true := by kernel_rfl
 have HR := Lib.hid R
 have hb1 : Below w.heap.size w (w.alloc (.cells SF.zero.cells.toArray 33)) := alloc_below _ _
 have hz1 : SpAt (w.alloc (.cells SF.zero.cells.toArray 33)) w.heap.size SF.zero := Row.new _ _ _
 have HST := Lib.hid (spStep_nosite hz1 rfl rfl rfl)
 have HB1 := Lib.hid hb1
 clear hb1 hz1 R
 go_enter Tryz.func3, Tryz.ntmps3
 go_wp2_with fail
 refine (spStep_nil _).mono ?_
 rintro e w1 ⟨rfl, hw1⟩
 rw [<- hw1]
 clear hw1 w1
 go_wp2_with fail
 refine HST.out.mono ?_
 rintro e w2 ⟨rfl, hz2, hb2⟩
 have HZ2 := Lib.hid hz2
 have HB2 := Lib.hid (show Below w.heap.size w w2 from HB1.out.trans (hb2.below HB1.out.size fun q e => by omega))
 obtain ⟨gz, hgz⟩ : ∃ gz, gz = w.heap.size := ⟨_, rfl⟩
 rw [<- hgz] at HZ2 ⊢
 have HGZ := Lib.hid hgz
 clear hz2 hb2 hgz HST HB1
 have HNEW := Lib.hid (spNew_any none 0 none w2)
 go_wp2_with fail
 refine HNEW.out.mono ?_
 rintro e w5 ⟨g1, gr1, rfl, hh5, _, hg1, _, hb5⟩
 have HST := Lib.hid (spStep_nosite hh5 rfl rfl rfl)
 have HB5 := Lib.hid (Below.and HB2.out hb5)
 have HZ5 := Lib.hid (HZ2.out.below hb5)
 have HG1 := Lib.hid (show g1 ≠ gz /\ w.heap.size <= g1 from by have := HZ2.out.lt; have := HB2.out.size; omega)
 clear hh5 hg1 hb5 HNEW HZ2 HB2
 go_wp2_with fail
 refine HST.out.mono ?_
 rintro e w6 ⟨rfl, _, hb6⟩
 have HZ6 := Lib.hid (HZ5.out.but hb6 fun e => HG1.out.1 e.symm)
 have HB6 := Lib.hid (show Below w.heap.size w w6 from HB5.out.trans (hb6.below HB5.out.size fun q e => by have := HG1.out.2; omega))
 have HLAY := Lib.hid (show Calls Tryz.prog 6 #[.agg #[.int .i64 2, .slice none 0 0, .int .i64 4, .int .i64 0]] w6 (BuildP w6 2 []) from
  lay_none (n := 2) (per := 4) (lag := 0) (by decide) (by decide) (by decide) (by decide) (by decide) (by rw [c0T]; decide) (by rw [c0N]; exact c0Wok))
 clear hb6 HST HZ5 HB5 HG1
 go_wp2_with fail
 refine HLAY.out.mono ?_
 rintro e w7 ⟨g, gb, rfl, hg, hgb, hb7, gl, cl, gr, cr, hA, hl, hc, hgl, hgr⟩
 have hNz : (bZ 2 []).N = 3072 := by unfold Ar.N; rw [c0Zn]
 have hrow0 := hA.row.cell 0
 have hbyt := hA.byt
 rw [hNz] at hrow0 hbyt
 rw [c0Zf] at hbyt
 have c0 : w7.cell? ⟨g, 0, none⟩ = some (.slice (some ⟨gb, 0, none⟩) 3072 3072) := hrow0
 have HB7 := Lib.hid (Below.and HB6.out hb7)
 have HZ7 := Lib.hid (HZ6.out.below hb7)
 have HON := Lib.hid (show Calls Tryz.prog 7 #[.slice (some ⟨gb, 0, none⟩) 3072 3072, .int .i64 1] w7 (OnSP w7 1 3072 2 C0F) from
  onS_yes (N := 3072) (n := 2) (c := 1) rfl (HR.out.below HB7.out) hbyt c0_byt (by decide) (by decide) (by decide) (by decide) c0Ok)
 clear hA hl hc hgl hgr hg hgb hb7 hNz hrow0 hbyt HLAY HB6 HZ6
 go_wp2_with fail
 refine HON.out.mono ?_
 rintro e w8 ⟨gx, ym, y, t, b, rfl, hsite, hsm, hsf, hka, ht, hbk, hnt, hnb, hm, hf, hgx, hnx, hb8⟩
 have HS8 := Lib.hid (And.intro hsite (And.intro hsm hsf))
 have HM8 := Lib.hid hm
 have HB8 := Lib.hid (Below.and HB7.out hb8)
 have HSZ := Lib.hid HB7.out.size
 have HZ8 := Lib.hid (HZ7.out.below hb8)
 have HNEW := Lib.hid (spNew_any (some ⟨gx, 0, none⟩) 0 none w8)
 clear hsite hsm hsf hka ht hbk hnt hnb hm hf hgx hnx hb8 HON HB7 HZ7 c0
 go_wp2_with fail
 refine HNEW.out.mono ?_
 rintro e w9 ⟨g2, gr2, rfl, hh9, _, hg2, _, hb9⟩
 have HB9 := Lib.hid (Below.and HB8.out hb9)
 have HZ9 := Lib.hid (HZ8.out.below hb9)
 have HG2 := Lib.hid (show g2 ≠ gz /\ w.heap.size <= g2 from by have := HZ8.out.lt; have := HB8.out.size; omega)
 have HST : Hid (Calls Tryz.prog 4 #[.pointer (some ⟨g2, 0, none⟩)] w9 fun e w' => e = .returned (.tuple #[.bool true, .int .i64 1]) /\ SpAt w' g2 { SF.new (some ⟨gx, 0, none⟩) 0 none gr2 with d := true, k := 1 } /\ But w9 w' (fun q => q = g2)) := Lib.hid (by
  obtain ⟨hsite, hsm, hsf⟩ := HS8.out
  have hrl : 0 < w.heap.size := by obtain ⟨tt, hR⟩ := HR.out; exact heap_lt hR
  have hsm9 := hsm.below hb9
  have hsz := HSZ.out
  exact spStep_nohold hh9 rfl rfl rfl rfl (HM8.out.below hb9) (by decide) (Row.below hsite hb9 hsite.lt) (by have := hsite.lt; omega) hsm9 (hsK_ok _ _ _) (fsK_ok _ _ _) ⟨HR.out.below HB9.out, fun h => by have := (hsf _ h).1; omega⟩ (by have := HG2.out.2; omega)
   (slab_apart hsm9 (Row.tag hh9) (by decide) (by decide) (by decide) (by decide) (by decide)))
 clear hh9 hg2 hb9 HNEW HB8 HZ8 HS8 HM8 HSZ
 go_wp2_with fail
 refine HST.out.mono ?_
 rintro e w10 ⟨rfl, _, hb10⟩
 have hz10 := HZ9.out.but hb10 fun e => HG2.out.1 e.symm
 have HB10 := Lib.hid (show Below w.heap.size w w10 from HB9.out.trans (hb10.below HB9.out.size fun q e => by have := HG2.out.2; omega))
 have HMZ := Lib.hid (spMade_no hz10 (by show (1 : Int) ≠ 0; decide) rfl)
 clear hz10 hb10 HST HB9 HZ9 HG2
 go_wp2_with fail
 refine (spMade_nil _).mono ?_
 rintro e w' ⟨rfl, rfl⟩
 go_wp2_with fail
 refine HMZ.out.mono ?_
 rintro e w' ⟨rfl, rfl⟩
 clear HMZ
 have HKN := Lib.hid (known17_any (HR.out.below HB10.out))
 go_wp2_with fail
 refine HKN.out.mono ?_
 rintro e w12 ⟨rfl, hb12⟩
 have HB12 := Lib.hid (Below.and HB10.out hb12)
 clear hb12 HKN
 go_wp2_with fail
 go_ret
 exact ⟨rfl, HB12.out⟩
end Go.Proofs.YtkbklooocdfcfaaGreatDoor
