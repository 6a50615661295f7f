/- Texts of this claim, packed: 6Lk. -/
import Derived.Test.YtahojhaeebmpoaaGreatDoorPl41
import Derived.Test.YtahojhaeebmpoaaGreatDoorPl37
import Derived.Test.YtahojhaeebmpoaaGreatDoorPl44
/- A copy of the game's memory, that crashes; images that fit. -/
namespace Go.Proofs.YtahojhaeebmpoaaGreatDoor
open Go Go.RowKit Go.Sort
set_option linter.unusedVariables false
def KD (w0 : World) (P0 : Nat → Prop) (B size gg mg gs gw : Nat) (z : S6) (s : St) (cg : Nat) (w : World) : Prop :=
  ∃ wc y, GD w0 P0 B size gg mg gs gw (RQ z) wc ∧ Below wc.heap.size wc w ∧ MemAt w y s ∧ s.Ok ∧ y.g = cg ∧ ∀ k, y.fp k → wc.heap.size ≤ k
section
variable {w0 w w' : World} {P0 : Nat → Prop} {B size gg mg gs gw cg : Nat} {z : S6} {s : St}
theorem KD.gd (K : KD w0 P0 B size gg mg gs gw z s cg w) : GD w0 P0 B size gg mg gs gw (RQ z) w := by
  obtain ⟨wc, y, G, hb, _⟩ := K
  exact G.below hb
theorem KD.below (K : KD w0 P0 B size gg mg gs gw z s cg w) (h : Below w.heap.size w w') : KD w0 P0 B size gg mg gs gw z s cg w' := by
  obtain ⟨wc, y, G, hb, hm, ok, hg, hf⟩ := K
  exact ⟨wc, y, G, Below.and hb h, hm.below h, ok, hg, hf⟩
theorem KD.ok (K : KD w0 P0 B size gg mg gs gw z s cg w) : s.Ok := by
  obtain ⟨wc, y, G, hb, hm, ok, hg, hf⟩ := K
  exact ok
theorem KD.drew (K : KD w0 P0 B size gg mg gs gw z s cg w) : KD w0 P0 B size gg mg gs gw z s cg w.drew := K.below (drew_below w)
theorem GD.las (G : GD w0 P0 B size gg mg gs gw (RQ z) w) : z.s.lasted.length = 8 * z.s.nl := by
  obtain ⟨y, z, n, xs, ⟨_, ⟨fs, g⟩, _⟩, h1, h2, h3, h4, rfl, _⟩ := G
  exact ownsRow_len g.pm.las
theorem GD.la (G : GD w0 P0 B size gg mg gs gw (RQ z) w) {n : Nat} (I : Inv6 n z) (L : La6 z) {z' : S6} (st : Step6 z z') : La6 z' := L.step I G.ok.1 G.ok.2.2.2.1 G.ok.2.2.2.2.1 G.las G.ok.2.2.1 st
theorem GD.copy (G : GD w0 P0 B size gg mg gs gw (RQ z) w) : Calls Tryz.prog 19 #[.pointer (some ⟨mg, 0, none⟩)] w fun e w' => ∃ cg, e = .returned (.pointer (some ⟨cg, 0, none⟩)) ∧ KD w0 P0 B size gg mg gs gw z z.s cg w' := by
  have G0 := G
  obtain ⟨y, z, n, xs, g, h1, rfl, h3, h4, rfl, h5⟩ := G
  obtain ⟨fs, gm⟩ := g.gm
  exact (copy_yes gm.pm gm.ok).mono fun e w' ⟨y', he, hm, hf, hb⟩ => ⟨_, he, w, y', G0, hb, hm, gm.ok, rfl, hf⟩
theorem KD.crash (K : KD w0 P0 B size gg mg gs gw z s cg w) (keep : List Int) (A : Option Addr) (cap : Nat) (hs : Sl w A (keep.map iv)) (hA : ∀ a, A = some a → keep ≠ [] → ∃ cs, Row w a.block 3 cs) (hl : keep.length ≤ 100) (hw : ∀ z ∈ keep, (Lit.int .i64 z).wf = true) :
    Calls Tryz.prog 20 #[.pointer (some ⟨cg, 0, none⟩), .slice A keep.length cap] w fun e w' => e = .returned (.tuple #[]) ∧ KD w0 P0 B size gg mg gs gw z (s.crash keep) cg w' := by
  obtain ⟨wc, y, G, hb, hm, ok, rfl, hf⟩ := K
  refine (crash_okE hm ok keep A cap hs (fun a ha hk h => ?_) (by omega) hw).mono fun e w' ⟨he, y', hm', t⟩ => ⟨he, wc, y', G, ?_, hm', ?_, t.g, fun k hk => ?_⟩
  · obtain ⟨cs, hr⟩ := hA a ha hk
    exact hm.apart_tag hr.tag (by decide) (by decide) (by decide) (by decide) h
  · refine ⟨t.but.os.trans hb.os, t.but.tape.trans hb.tape, t.but.output.trans hb.output, Nat.le_trans hb.size t.but.size, fun k hk => ?_⟩
    rw [t.but.block k (Nat.lt_of_lt_of_le hk hb.size) (fun h => by have := hf k h; omega)]
    exact hb.block k hk
  · exact crashTo_Ok ok keep (nz s.pend) fun x hx => by
      have := nzFrom_bound s.pend 0 0 x hx
      omega
  · rcases t.fp k hk with h | h
    · exact hf k h
    · exact Nat.le_trans hb.size h
def ImD (w : World) (l : List Nat) (e : Ending) (w' : World) : Prop := ∃ g cap, e = .returned (.slice (some ⟨g, 0, none⟩) l.length cap) ∧ Sl w' (some ⟨g, 0, none⟩) (l.map bv) ∧ Below w.heap.size w w'
theorem imd_of {l : List Nat} {e : Ending} (h : BytesPost w (bytesL l) e w') (h0 : 0 < l.length) : ImD w (bytesL l) e w' := by
  obtain ⟨⟨v, rfl, ho⟩, hb⟩ := h
  obtain ⟨g, cap, rfl, _, _, hs⟩ := own_some ho (by rw [bytesL_length]; omega)
  exact ⟨g, cap, rfl, hs, hb⟩
theorem KD.image (K : KD w0 P0 B size gg mg gs gw z s cg w) (h0 : 0 < s.lasted.length) : Calls Tryz.prog 22 #[.pointer (some ⟨cg, 0, none⟩)] w (ImD w (bytesL s.lasted)) := by
  obtain ⟨wc, y, G, hb, hm, ok, rfl, hf⟩ := K
  exact (image_yes hm ok.las).mono fun e w' h => imd_of h h0
theorem GD.image (G : GD w0 P0 B size gg mg gs gw (RQ z) w) (h0 : 0 < z.s.lasted.length) : Calls Tryz.prog 22 #[.pointer (some ⟨mg, 0, none⟩)] w (ImD w (bytesL z.s.lasted)) := by
  obtain ⟨y, z, n, xs, g, h1, rfl, h3, h4, rfl, h5⟩ := G
  obtain ⟨fs, gm⟩ := g.gm
  exact (image_yes gm.pm gm.ok.las).mono fun e w' h => imd_of h h0
theorem GD.fits (G : GD w0 P0 B size gg mg gs gw (RQ z) w) {n : Nat} (I : Inv6 n z) (hn : n ≤ 740) (L : La6 z) (hsz : size = 1024 * (z.hs.length + 1)) {s' : St} (ok : s'.Ok) (hl : s'.lasted.length = z.s.lasted.length) (hf : ∀ i, i < z.hs.length → FrS z.s s' i) {g cap : Nat} (hr : Sl w (some ⟨g, 0, none⟩) ((bytesL s'.lasted).map bv)) :
    Calls Tryz.prog 21 #[.pointer (some ⟨gw, 0, none⟩), .slice (some ⟨g, 0, none⟩) (bytesL s'.lasted).length cap] w fun e w' => e = .returned (.bool true) ∧ GD w0 P0 B size gg mg gs gw (RQ z) w' := by
  have hlas := G.las
  obtain ⟨ho, hm, hnl, _, _, h3⟩ := G.ok
  have hpos := G.hpos
  have hbl : (bytesL s'.lasted).length = 1024 * (z.hs.length + 1) := by rw [bytesL_length, hl, hlas]; omega
  have hbb := bytesL_lt s'.lasted
  obtain ⟨hok, p1, p2, p3⟩ := fits_plain L I.wis ho hm h3 (l := bytesL s'.lasted) hbb fun i hi => by
    obtain ⟨m, h1, h2⟩ := hf i hi 0 (Nat.zero_le _)
    exact ⟨m, h1, (heads_of ok (by rw [hl, hlas]; omega)).trans h2⟩
  have G0 := G
  obtain ⟨y, z, q, xs, G, h1, h2, h3', rfl, rfl, h5⟩ := G
  have hw6 := G.w6
  rw [hsz, ← hbl] at hw6
  rw [hbl]
  exact (r6Fits_any hw6 (by have := I.ll; omega) hbl hr hbb hpos hm hok (by rw [I.wis.cls, List.length_map]) p1 p2 p3).mono fun e w' ⟨he, hb⟩ => ⟨he, G0.below hb⟩
end
end Go.Proofs.YtahojhaeebmpoaaGreatDoor
