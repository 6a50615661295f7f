/- Texts of this claim, packed: GpO, SpG, ArC4, SpC, SpM. -/
import Derived.Test.YtkbklooocdfcfaaGreatDoorPz46
import Derived.Test.YtkbklooocdfcfaaGreatDoorPz47
import Derived.Test.YtkbklooocdfcfaaGreatDoorPz39
import Derived.Test.YtkbklooocdfcfaaGreatDoorPz08
import Derived.Test.YtkbklooocdfcfaaGreatDoorPz32
import Derived.Test.YtkbklooocdfcfaaGreatDoorPz26
set_option linter.unusedVariables false
set_option maxRecDepth 100000
set_option maxHeartbeats 6400000
namespace Go.Proofs.YtkbklooocdfcfaaGreatDoor
open Go.RowKit Go.Sort
theorem Game.butO {w w' : World} {ym : Lay} {s : St} {y : SLay} {hs : List Hd} {fs : Nat -> List Nat} {P : Nat -> Prop} (G : Game w ym s y hs fs) (hb : But w w' P) (h1 : ∀ q, P q -> ¬ ym.fp q) (h2 : ∀ q, P q -> ¬ y.fp q) (h3 : ¬ P 0) : Game w' ym s y hs fs :=
 ⟨G.pm.but hb (fun q hq hp => h1 q hp hq), G.ok, G.mem.keep hb (fun q hq hp => h2 q hp hq), G.ho, G.fo, ⟨G.rs.1.but hb h3, G.rs.2⟩, G.rm, G.size⟩
structure OSt (w W : World) (ym : Lay) (s : St) (y : SLay) (hs : List Hd) (fs : Nat -> List Nat) (gx gm gs N : Nat) (got : List Nat) (v : Value) : Prop where
 game : Game W ym s y hs fs
 eg : ym.g = gm
 es : y.gs = gs
 site : ∃ t, SiteAt W gx (some ⟨gm, 0, none⟩) (some ⟨gs, 0, none⟩) t
 len : hs.length = N
 ad : Adr W v got
 own : ∀ k, v.ownBlock = some k -> w.heap.size <= k /\ ¬ ym.fp k /\ ¬ y.fp k
 fm : ∀ k, ym.fp k -> w.heap.size <= k
 fy : ∀ k, y.fp k -> w.heap.size <= k
 low : Below w.heap.size w W
 rl : 0 < w.heap.size
section
variable {w W W' : World} {ym ym' : Lay} {s s' : St} {y y' : SLay} {hs hs' hs1 : List Hd} {fs fs' : Nat -> List Nat} {gx gm gs N gt : Nat} {got : List Nat} {v : Value}
end
theorem slab_apart {w : World} {ys : SLay} {hs : List Hd} {fs : Nat -> List Nat} (h : SlabMem w ys hs fs) {k : Nat} {t : TypeId} (ht : Tag w k t) (h1 : t ≠ 125) (h2 : t ≠ 129) (h3 : t ≠ 179) (h4 : t ≠ 30) (h5 : t ≠ 3) : ¬ ys.fp k := fun hk => by
 rcases h.tag hk with h' | h' | h' | h' | h'
 ·exact h1 (ht.same h')
 ·exact h2 (ht.same h')
 ·exact h3 (ht.same h')
 ·exact h4 (ht.same h')
 ·exact h5 (ht.same h')
structure SpG (w0 W : World) (ym : Lay) (s : St) (y : SLay) (hs : List Hd) (fs : Nat -> List Nat) (gm gs gx gh g gr : Nat) (t : Option Addr) (F : HF) (S : SF) : Prop where
 game : Game W ym s y hs fs
 eg : ym.g = gm
 es : y.gs = gs
 site : SiteAt W gx (some ⟨gm, 0, none⟩) (some ⟨gs, 0, none⟩) t
 ho : HoAt W gh F
 sp : SpAt W g S
 row : Row W gr 53 (rowV g).toArray
 si : S.si = some ⟨gx, 0, none⟩
 hp : S.ho = some ⟨gh, 0, none⟩
 fd : F.d = true
 fl : F.lk = true
 fk : F.k = 0
 fm : ∀ k, ym.fp k -> w0.heap.size <= k
 fy : ∀ k, y.fp k -> w0.heap.size <= k
 pg : w0.heap.size <= g
 ph : w0.heap.size <= gh
 px : w0.heap.size <= gx
 low : Below w0.heap.size w0 W
 rl : 0 < w0.heap.size
section
variable {w0 W W' : World} {ym ym' : Lay} {s s' : St} {y y' : SLay} {hs hs' : List Hd} {fs fs' : Nat -> List Nat} {gm gs gx gh g gr gt : Nat} {t : Option Addr} {F F' : HF} {S S' : SF}
theorem SpG.below (h : SpG w0 W ym s y hs fs gm gs gx gh g gr t F S) (hb : Below W.heap.size W W') : SpG w0 W' ym s y hs fs gm gs gx gh g gr t F S :=
 { h with game := h.game.below hb, site := Row.below h.site hb h.site.lt, ho := h.ho.below hb, sp := h.sp.below hb, row := h.row.below hb h.row.lt, low := h.low.trans (hb.mono h.low.size) }
theorem SpG.apart (h : SpG w0 W ym s y hs fs gm gs gx gh g gr t F S) : (¬ ym.fp gx /\ ¬ y.fp gx) /\ (¬ ym.fp gh /\ ¬ y.fp gh) /\ (¬ ym.fp g /\ ¬ y.fp g) /\ (¬ ym.fp gr /\ ¬ y.fp gr) := by
 have t1 : Tag W gx 83 := Row.tag h.site
 have t2 : Tag W gh 144 := Row.tag h.ho
 have t3 : Tag W g 33 := Row.tag h.sp
 have t4 : Tag W gr 53 := Row.tag h.row
 exact ⟨⟨h.game.pm.apart_tag t1 (by decide) (by decide) (by decide) (by decide), slab_apart h.game.mem t1 (by decide) (by decide) (by decide) (by decide) (by decide)⟩,
  ⟨h.game.pm.apart_tag t2 (by decide) (by decide) (by decide) (by decide), slab_apart h.game.mem t2 (by decide) (by decide) (by decide) (by decide) (by decide)⟩,
  ⟨h.game.pm.apart_tag t3 (by decide) (by decide) (by decide) (by decide), slab_apart h.game.mem t3 (by decide) (by decide) (by decide) (by decide) (by decide)⟩,
  ⟨h.game.pm.apart_tag t4 (by decide) (by decide) (by decide) (by decide), slab_apart h.game.mem t4 (by decide) (by decide) (by decide) (by decide) (by decide)⟩⟩
theorem SpG.differ (h : SpG w0 W ym s y hs fs gm gs gx gh g gr t F S) : gx ≠ gh /\ gx ≠ g /\ gh ≠ g /\ gr ≠ g /\ gr ≠ gh := by
 have t1 : Tag W gx 83 := Row.tag h.site
 have t2 : Tag W gh 144 := Row.tag h.ho
 have t3 : Tag W g 33 := Row.tag h.sp
 have t4 : Tag W gr 53 := Row.tag h.row
 exact ⟨fun e => absurd (t1.same (e ▸ t2)) (by decide), fun e => absurd (t1.same (e ▸ t3)) (by decide), fun e => absurd (t2.same (e ▸ t3)) (by decide), fun e => absurd (t4.same (e ▸ t3)) (by decide), fun e => absurd (t4.same (e ▸ t2)) (by decide)⟩
theorem SpG.turn (h : SpG w0 W ym s y hs fs gm gs gx gh g gr t F S) (G : Game W' ym' s' y' hs' fs') (T : GTurn W W' ym ym' y y' gt) (h1 : gt ≠ gx) (h2 : gt ≠ gh) (h3 : gt ≠ g) (h4 : gt ≠ gr) (h5 : w0.heap.size <= gt) :
  SpG w0 W' ym' s' y' hs' fs' gm gs gx gh g gr t F S := by
 obtain ⟨⟨a1, a2⟩, ⟨b1, b2⟩, ⟨c1, c2⟩, d1, d2⟩ := h.apart
 have hlow := h.low.size
 refine { h with game := G, eg := T.g.trans h.eg, es := T.gs.trans h.es, site := T.but.row h.site ?_, ho := h.ho.but T.but ?_, sp := h.sp.but T.but ?_, row := T.but.row h.row ?_, fm := fun k hk => ?_, fy := fun k hk => ?_, low := h.low.trans (T.but.below hlow fun k hk => ?_) }
 ·rintro (e | e | e); exact a1 e; exact a2 e; exact h1 e.symm
 ·rintro (e | e | e); exact b1 e; exact b2 e; exact h2 e.symm
 ·rintro (e | e | e); exact c1 e; exact c2 e; exact h3 e.symm
 ·rintro (e | e | e); exact d1 e; exact d2 e; exact h4 e.symm
 ·rcases T.fm k hk with e | e
  ·exact h.fm k e
  ·omega
 ·rcases T.fy k hk with e | e
  ·exact h.fy k e
  ·omega
 ·rcases hk with e | e | e
  ·exact h.fm k e
  ·exact h.fy k e
  ·omega
theorem SpG.own (h : SpG w0 W ym s y hs fs gm gs gx gh g gr t F S) (hb : But W W' (fun q => q = g)) (hs' : SpAt W' g S') (e1 : S'.si = S.si) (e2 : S'.ho = S.ho) : SpG w0 W' ym s y hs fs gm gs gx gh g gr t F S' := by
 obtain ⟨_, _, ⟨c1, c2⟩, _, _⟩ := h.apart
 obtain ⟨n1, n2, n3, n4, n5⟩ := h.differ
 have hp := h.pg
 have hr := h.rl
 refine { h with game := h.game.butO hb (fun q hq hf => c1 (hq ▸ hf)) (fun q hq hf => c2 (hq ▸ hf)) (fun e => by omega), site := hb.row h.site n2, ho := h.ho.but hb n3, sp := hs', row := hb.row h.row n4, si := e1.trans h.si, hp := e2.trans h.hp, low := h.low.trans (hb.below h.low.size fun k hk => by omega) }
theorem SpG.hold (h : SpG w0 W ym s y hs fs gm gs gx gh g gr t F S) (hb : But W W' (fun q => q = gh)) (hs' : HoAt W' gh F') (e1 : F'.d = true) (e2 : F'.lk = true) (e3 : F'.k = 0) : SpG w0 W' ym s y hs fs gm gs gx gh g gr t F' S := by
 obtain ⟨_, ⟨c1, c2⟩, _, _, _⟩ := h.apart
 obtain ⟨n1, n2, n3, n4, n5⟩ := h.differ
 have hp := h.ph
 have hr := h.rl
 refine { h with game := h.game.butO hb (fun q hq hf => c1 (hq ▸ hf)) (fun q hq hf => c2 (hq ▸ hf)) (fun e => by omega), site := hb.row h.site n1, ho := hs', sp := h.sp.but hb (Ne.symm n3), row := hb.row h.row n5, fd := e1, fl := e2, fk := e3, low := h.low.trans (hb.below h.low.size fun k hk => by omega) }
theorem SpG.at_ (h : SpG w0 W ym s y hs fs gm gs gx gh g gr t F S) : Calls Tryz.prog 25 #[.pointer (some ⟨gh, 0, none⟩)] W fun e w' => e = .returned (.tuple #[.int .u64 F.at_, F.n.V, .int .i64 0]) /\ Below W.heap.size W w' :=
 hoAt_yes h.ho fun W1 hb => (hoRefusal_done (h.ho.below hb) h.fd h.fk).mono fun e w' ⟨he, hw⟩ => ⟨by rw [he, h.fl]; rfl, by rw [<- hw]; exact Below.refl _ _⟩
theorem SpG.mem_ (h : SpG w0 W ym s y hs fs gm gs gx gh g gr t F S) : Calls Tryz.prog 27 #[.pointer S.si] W fun e w' => e = .returned (.pointer (some ⟨gm, 0, none⟩)) /\ W = w' := by
 rw [h.si]
 exact siMem_yes h.site
theorem SpG.size_ (h : SpG w0 W ym s y hs fs gm gs gx gh g gr t F S) : Calls Tryz.prog 30 #[.pointer (some ⟨gm, 0, none⟩)] W fun e w' => e = .returned (.int .i64 ((64 * s.nl : Nat) : Int)) /\ W = w' := by
 have := size_yes h.game.pm
 rw [h.eg] at this
 exact this
theorem SpG.slab_ (h : SpG w0 W ym s y hs fs gm gs gx gh g gr t F S) : Calls Tryz.prog 12 #[.pointer S.si] W fun e w' => e = .returned (.pointer (some ⟨gs, 0, none⟩)) /\ W = w' := by
 rw [h.si]
 exact siSlab_yes h.site
end
def GoesS (g : Nat) (E : World -> Prop) : Nat -> World -> Prop
 | 0, W => E W
 | n + 1, W => ∀ Wl, Below W.heap.size W Wl -> Calls Tryz.prog 4 #[.pointer (some ⟨g, 0, none⟩)] Wl fun e w' => e = .returned (.tuple #[.bool (decide (n = 0)), .int .i64 0]) /\ GoesS g E n w'
theorem GoesS.below {g : Nat} {E : World -> Prop} (hE : ∀ W W', E W -> Below W.heap.size W W' -> E W') : ∀ {n : Nat} {W W' : World}, GoesS g E n W -> Below W.heap.size W W' -> GoesS g E n W'
 | 0, W, W', h, hb => hE W W' h hb
 | n + 1, W, W', h, hb => fun Wl hl => h Wl (Below.and hb hl)
end Go.Proofs.YtkbklooocdfcfaaGreatDoor
namespace Go.Proofs.YtkbklooocdfcfaaGreatDoor
open Go.RowKit
structure AL (w : World) (g gl gr cl cr : Nat) (T : Int) (n : Nd) : Prop where
 lv : w.cell? ⟨g, 7, none⟩ = some (.slice (some ⟨gl, 0, none⟩) 1 cl)
 rw_ : w.cell? ⟨gl, 0, none⟩ = some (.slice (some ⟨gr, 0, none⟩) 1 cr)
 at_ : ∀ j u, (atV T n)[j]? = some u -> w.cell? ⟨gr, j, none⟩ = some u
theorem AL.but {w w' : World} {g gl gr cl cr : Nat} {T : Int} {n : Nd} {fp : Nat -> Prop} (h : AL w g gl gr cl cr T n) (hb : But w w' fp) (h1 : ¬ fp g) (h2 : ¬ fp gl) (h3 : ¬ fp gr) : AL w' g gl gr cl cr T n :=
 ⟨hb.cell h.lv h1, hb.cell h.rw_ h2, fun j u hu => hb.cell (h.at_ j u hu) h3⟩
theorem AL.low {w w' : World} {g gl gr cl cr : Nat} {T : Int} {n : Nd} (h : AL w g gl gr cl cr T n) (hb : Below w.heap.size w w') : AL w' g gl gr cl cr T n :=
 h.but (But.of_below hb fun _ => False) (fun e => e) (fun e => e) (fun e => e)
theorem AL.rng {w : World} {g gl gr cl cr : Nat} {T : Int} {n : Nd} (h : AL w g gl gr cl cr T n) : w.rangeAt gr 1 n.cl := fun j v hv => h.at_ (1 + j) v (by rw [Nat.add_comm]; exact hv)
theorem c8num1 : numS 1 = ⟨#[49]⟩ := by unfold numS; rw [Lib.decDigits_one (by decide)]; rfl
theorem c8num2 : numS 2 = ⟨#[50]⟩ := by unfold numS; rw [Lib.decDigits_one (by decide)]; rfl
theorem c8num3 : numS 3 = ⟨#[51]⟩ := by unfold numS; rw [Lib.decDigits_one (by decide)]; rfl
theorem c8num4 : numS 4 = ⟨#[52]⟩ := by unfold numS; rw [Lib.decDigits_one (by decide)]; rfl
theorem c8num6 : numS 6 = ⟨#[54]⟩ := by unfold numS; rw [Lib.decDigits_one (by decide)]; rfl
theorem c8num7 : numS 7 = ⟨#[55]⟩ := by unfold numS; rw [Lib.decDigits_one (by decide)]; rfl
theorem c8num8 : numS 8 = ⟨#[56]⟩ := by unfold numS; rw [Lib.decDigits_one (by decide)]; rfl
def C8A : Ar := (((((((((b1 3).valS ⟨#[49]⟩).valS ⟨#[50]⟩).valS ⟨#[51]⟩).valS ⟨#[52]⟩).valS ⟨#[53]⟩).valS ⟨#[54]⟩).valS ⟨#[55]⟩).valS ⟨#[56]⟩)
theorem c8A : bA 3 [1, 2, 3, 4, 5, 6, 7, 8] = C8A := by
 show (((((((((b1 3).val 1).val 2).val 3).val 4).val 5).val 6).val 7).val 8) = C8A
 rw [val_S, val_S, val_S, val_S, val_S, val_S, val_S, val_S, c8num1, c8num2, c8num3, c8num4, c14num5, c8num6, c8num7, c8num8]
 rfl
def C8N : Nd := ⟨0, 0, 0, 0, 2112, 1, 2, 3, 4, 5, 6, 7, 8, 1088, 1152, 1216, 1280, 1344, 1408, 1472, 1536⟩
theorem c8T : bT 3 [1, 2, 3, 4, 5, 6, 7, 8] = 2112 := by unfold bT; rw [c8A]; decide +kernel
theorem c8V : (b1 3).newValue.1 = 1088 /\ ((b1 3).valS ⟨#[49]⟩).newValue.1 = 1152 /\ (((b1 3).valS ⟨#[49]⟩).valS ⟨#[50]⟩).newValue.1 = 1216 /\ ((((b1 3).valS ⟨#[49]⟩).valS ⟨#[50]⟩).valS ⟨#[51]⟩).newValue.1 = 1280 /\ (((((b1 3).valS ⟨#[49]⟩).valS ⟨#[50]⟩).valS ⟨#[51]⟩).valS ⟨#[52]⟩).newValue.1 = 1344 /\ ((((((b1 3).valS ⟨#[49]⟩).valS ⟨#[50]⟩).valS ⟨#[51]⟩).valS ⟨#[52]⟩).valS ⟨#[53]⟩).newValue.1 = 1408 /\ (((((((b1 3).valS ⟨#[49]⟩).valS ⟨#[50]⟩).valS ⟨#[51]⟩).valS ⟨#[52]⟩).valS ⟨#[53]⟩).valS ⟨#[54]⟩).newValue.1 = 1472 /\ ((((((((b1 3).valS ⟨#[49]⟩).valS ⟨#[50]⟩).valS ⟨#[51]⟩).valS ⟨#[52]⟩).valS ⟨#[53]⟩).valS ⟨#[54]⟩).valS ⟨#[55]⟩).newValue.1 = 1536 := by decide +kernel
theorem c8S0 : (b1 3) = (b1 3) := rfl
theorem c8S1 : ((b1 3).val 1) = ((b1 3).valS ⟨#[49]⟩) := by rw [c8S0, val_S, c8num1]
theorem c8S2 : (((b1 3).val 1).val 2) = (((b1 3).valS ⟨#[49]⟩).valS ⟨#[50]⟩) := by rw [c8S1, val_S, c8num2]
theorem c8S3 : ((((b1 3).val 1).val 2).val 3) = ((((b1 3).valS ⟨#[49]⟩).valS ⟨#[50]⟩).valS ⟨#[51]⟩) := by rw [c8S2, val_S, c8num3]
theorem c8S4 : (((((b1 3).val 1).val 2).val 3).val 4) = (((((b1 3).valS ⟨#[49]⟩).valS ⟨#[50]⟩).valS ⟨#[51]⟩).valS ⟨#[52]⟩) := by rw [c8S3, val_S, c8num4]
theorem c8S5 : ((((((b1 3).val 1).val 2).val 3).val 4).val 5) = ((((((b1 3).valS ⟨#[49]⟩).valS ⟨#[50]⟩).valS ⟨#[51]⟩).valS ⟨#[52]⟩).valS ⟨#[53]⟩) := by rw [c8S4, val_S, c14num5]
theorem c8S6 : (((((((b1 3).val 1).val 2).val 3).val 4).val 5).val 6) = (((((((b1 3).valS ⟨#[49]⟩).valS ⟨#[50]⟩).valS ⟨#[51]⟩).valS ⟨#[52]⟩).valS ⟨#[53]⟩).valS ⟨#[54]⟩) := by rw [c8S5, val_S, c8num6]
theorem c8S7 : ((((((((b1 3).val 1).val 2).val 3).val 4).val 5).val 6).val 7) = ((((((((b1 3).valS ⟨#[49]⟩).valS ⟨#[50]⟩).valS ⟨#[51]⟩).valS ⟨#[52]⟩).valS ⟨#[53]⟩).valS ⟨#[54]⟩).valS ⟨#[55]⟩) := by rw [c8S6, val_S, c8num7]
theorem c8Room : ∀ k, k < [1, 2, 3, 4, 5, 6, 7, 8].length -> (bK (b1 3) [1, 2, 3, 4, 5, 6, 7, 8] k).newValue.1 ≠ 0 := fun k hk => by
 have hk : k < 8 := hk
 obtain ⟨h0, h1, h2, h3, h4, h5, h6, h7⟩ := c8V
 rcases (by omega : k = 0 \/ k = 1 \/ k = 2 \/ k = 3 \/ k = 4 \/ k = 5 \/ k = 6 \/ k = 7) with rfl | rfl | rfl | rfl | rfl | rfl | rfl | rfl
 ·show ((b1 3)).newValue.1 ≠ 0
  rw [c8S0, h0]
  decide
 ·show (((b1 3).val 1)).newValue.1 ≠ 0
  rw [c8S1, h1]
  decide
 ·show ((((b1 3).val 1).val 2)).newValue.1 ≠ 0
  rw [c8S2, h2]
  decide
 ·show (((((b1 3).val 1).val 2).val 3)).newValue.1 ≠ 0
  rw [c8S3, h3]
  decide
 ·show ((((((b1 3).val 1).val 2).val 3).val 4)).newValue.1 ≠ 0
  rw [c8S4, h4]
  decide
 ·show (((((((b1 3).val 1).val 2).val 3).val 4).val 5)).newValue.1 ≠ 0
  rw [c8S5, h5]
  decide
 ·show ((((((((b1 3).val 1).val 2).val 3).val 4).val 5).val 6)).newValue.1 ≠ 0
  rw [c8S6, h6]
  decide
 ·show (((((((((b1 3).val 1).val 2).val 3).val 4).val 5).val 6).val 7)).newValue.1 ≠ 0
  rw [c8S7, h7]
  decide
theorem c8E : bE (b1 3) [1, 2, 3, 4, 5, 6, 7, 8] 8 = [(1, 1088), (2, 1152), (3, 1216), (4, 1280), (5, 1344), (6, 1408), (7, 1472), (8, 1536)] := by
 obtain ⟨h0, h1, h2, h3, h4, h5, h6, h7⟩ := c8V
 show [(((1 : Nat) : Int), ((((b1 3)).newValue.1 : Nat) : Int)), (((2 : Nat) : Int), (((((b1 3).val 1)).newValue.1 : Nat) : Int)), (((3 : Nat) : Int), ((((((b1 3).val 1).val 2)).newValue.1 : Nat) : Int)), (((4 : Nat) : Int), (((((((b1 3).val 1).val 2).val 3)).newValue.1 : Nat) : Int)), (((5 : Nat) : Int), ((((((((b1 3).val 1).val 2).val 3).val 4)).newValue.1 : Nat) : Int)), (((6 : Nat) : Int), (((((((((b1 3).val 1).val 2).val 3).val 4).val 5)).newValue.1 : Nat) : Int)), (((7 : Nat) : Int), ((((((((((b1 3).val 1).val 2).val 3).val 4).val 5).val 6)).newValue.1 : Nat) : Int)), (((8 : Nat) : Int), (((((((((((b1 3).val 1).val 2).val 3).val 4).val 5).val 6).val 7)).newValue.1 : Nat) : Int))] = _
 rw [show ((b1 3)).newValue.1 = 1088 by rw [c8S0]; exact h0, show (((b1 3).val 1)).newValue.1 = 1152 by rw [c8S1]; exact h1, show ((((b1 3).val 1).val 2)).newValue.1 = 1216 by rw [c8S2]; exact h2, show (((((b1 3).val 1).val 2).val 3)).newValue.1 = 1280 by rw [c8S3]; exact h3, show ((((((b1 3).val 1).val 2).val 3).val 4)).newValue.1 = 1344 by rw [c8S4]; exact h4, show (((((((b1 3).val 1).val 2).val 3).val 4).val 5)).newValue.1 = 1408 by rw [c8S5]; exact h5, show ((((((((b1 3).val 1).val 2).val 3).val 4).val 5).val 6)).newValue.1 = 1472 by rw [c8S6]; exact h6, show (((((((((b1 3).val 1).val 2).val 3).val 4).val 5).val 6).val 7)).newValue.1 = 1536 by rw [c8S7]; exact h7]
 rfl
theorem c8N : bN 3 [1, 2, 3, 4, 5, 6, 7, 8] = C8N := by
 show mkN (leaf0 (bT 3 [1, 2, 3, 4, 5, 6, 7, 8] : Int)) (bE (b1 3) [1, 2, 3, 4, 5, 6, 7, 8] 8) 8 = C8N
 rw [c8T, c8E]
 rfl
theorem c8Wok : WordsOk C8N := by
 unfold WordsOk
 decide
def C8F : Nat -> Nat := putF (layF C8A.newNode.2.f 2112 C8N) 16 2112
theorem c8Zf : (bZ 3 [1, 2, 3, 4, 5, 6, 7, 8]).f = C8F := by
 unfold bZ
 rw [c8T, c8N, c8A]
 rfl
theorem c8Zn : (bZ 3 [1, 2, 3, 4, 5, 6, 7, 8]).n = 3 := by decide +kernel
theorem c8H : wrdF C8F 1024 = 1 /\ wrdF C8F 1032 = 255 /\ wrdF C8F 2048 = 3 /\ wrdF C8F 2056 = 1 /\ wrdF C8F 3072 = 0 /\ wrdF C8F 3080 = 0 := by decide +kernel
theorem c8Wrd : ∀ i, i < 24 -> (wrdF C8F (2112 + 8 * i) : Int) = wAt (wi C8N) i := by decide +kernel
def C8S : St := St.ofBytes (4096 / 64) ((List.range 4096).map C8F)
theorem c8_byt : BytF C8F := by
 have h := (b1_ok (n := 3) (by decide))
 have h2 := (bK_ok h [1, 2, 3, 4, 5, 6, 7, 8] 8).1
 have h3 := (Ar.newNode_ok h2).1.byt
 have e : bK (b1 3) [1, 2, 3, 4, 5, 6, 7, 8] 8 = C8A := c8A
 rw [e] at h3
 exact ((layK_byt h3 2112 C8N 24).put 16 2112)
theorem c8_view {j : Nat} (h : j < 512) : C8S.view.getD j 0 = wrdF C8F (8 * j) := by
 show (wordsK _ 4096 512).getD j 0 = _
 rw [List.getD_eq_getElem?_getD, wordsK_get h, pw_range C8F (by omega)]
 rfl
theorem c8_V {A : Nat} (h : A % 8 = 0) (h2 : A < 4096) : ldV C8S A = (wrdF C8F A : Int) /\ ldK C8S A = 0 := by
 have hc : A % 8 = 0 /\ A < 64 * C8S.nl := ⟨h, h2⟩
 unfold ldV ldK
 rw [if_pos hc, if_pos hc, c8_view (by omega), show 8 * (A / 8) = A by omega]
 exact ⟨rfl, rfl⟩
theorem c8Ok : okHeads ((List.range 4096).map C8F) 3 := by
 intro q hq
 have hl : ((List.range 4096).map C8F).length = 4096 := by simp
 unfold hcW hbW
 rw [hl, pw_range C8F (by omega), pw_range C8F (by omega)]
 obtain ⟨h1, h2, h3, h4, h5, h6⟩ := c8H
 rcases (by omega : q = 0 \/ q = 1 \/ q = 2) with rfl | rfl | rfl
 ·rw [show 8 * (128 * (0 + 1)) = 1024 from rfl, show 8 * (128 * (0 + 1) + 1) = 1032 from rfl, h1, h2]
  decide +kernel
 ·rw [show 8 * (128 * (1 + 1)) = 2048 from rfl, show 8 * (128 * (1 + 1) + 1) = 2056 from rfl, h3, h4]
  decide +kernel
 ·rw [show 8 * (128 * (2 + 1)) = 3072 from rfl, show 8 * (128 * (2 + 1) + 1) = 3080 from rfl, h5, h6]
  decide +kernel
theorem c8_Lds : Lds C8S.nl 0 C8S := by
 refine ⟨rfl, ofBytes_Ok fun x hx => ?_, by show (List.replicate (4096 / 64) ([] : List (Nat × Nat))).length = 4096 / 64; exact List.length_replicate, fun j => ?_, by show (wordsK _ _ _).length = _; rw [wordsK_len]; rfl, Nat.le_refl _, Nat.le_refl _, Nat.le_refl _, Nat.le_refl _⟩
 ·obtain ⟨j, _, rfl⟩ := List.mem_map.1 hx
  exact c8_byt j
 ·show ((List.replicate 64 ([] : List (Nat × Nat))).getD j []).length <= 0
  rw [List.getD_eq_getElem?_getD, List.getElem?_replicate]
  split <;> simp
theorem c8Snap : ∃ T S', 1 <= T /\ T <= 60 /\ Goes (ldV C8S) (ldK C8S) (SS.new 2112) T S' /\ S'.d = true /\ S'.k = 0 /\ S'.n = C8N := by
 have hw : ∀ i, i < 24 -> ldV C8S (snWordAt 2112 i) = wAt (wi C8N) i /\ ldK C8S (snWordAt 2112 i) = 0 := fun i hi => by
  have e : snWordAt 2112 i = 2112 + 8 * i := by unfold snWordAt; rw [if_pos (by omega)]
  rw [e, <- c8Wrd i hi]
  exact c8_V (by omega) (by omega)
 have hw2 : wAt (wi C8N) 2 = 0 := rfl
 obtain ⟨T, S', t1, t2, hG, hd, hr⟩ := sn_alone (V := ldV C8S) (K := ldK C8S) (ldK_is _) 2112
 refine ⟨T, S', t1, t2, hG, hd, ?_⟩
 rcases hr with ⟨_, _, hb⟩ | ⟨e1, e2, e3, _⟩
 ·exfalso
  rcases hb with ⟨k, hk, e⟩ | ⟨e, _⟩
  ·rw [(hw k hk).2] at e
   cases e
  ·rw [(hw 2 (by omega)).1, hw2] at e
   exact e rfl
 ·have hR := ofR_full (x := wi C8N) (W := fun i => ldV C8S (snWordAt 2112 i)) (fun i hi => (hw i hi).1)
  have hv : isLv C8N = true := by decide
  rw [(wi_of C8N).2, if_pos hv] at hR
  rw [hR] at e1 e2
  exact ⟨e1, e2⟩
theorem c8_inv : C8N.inv < 0 := by decide +kernel
theorem c8_act : ¬ (C8N.act 0 false).length < C8N.len := by decide +kernel
end Go.Proofs.YtkbklooocdfcfaaGreatDoor
namespace Go.Proofs.YtkbklooocdfcfaaGreatDoor
open Go.RowKit Go.Sort
def C8H : List Hd := [⟨1, 1, 255, blK 15 255 15⟩, ⟨2, 3, 1, [2, 0, 0, 0, 0]⟩, ⟨3, 0, 0, []⟩]
def C8H1 : List Hd := [⟨1, 1, 255, blK 15 255 15⟩, ⟨2, 3, 1, [2, 1, 0, 0, 0]⟩, ⟨3, 0, 0, []⟩]
def C8H3 : List Hd := [⟨1, 1, 255, blK 15 255 15⟩, ⟨2, 3, 3, [2, 2, 0, 0, 0]⟩, ⟨3, 0, 0, []⟩]
theorem c8_hs : hsK (hcW ((List.range 4096).map C8F)) (hbW ((List.range 4096).map C8F)) 3 3 = C8H := by
 have hl : ((List.range 4096).map C8F).length = 4096 := by simp
 obtain ⟨h1, h2, h3, h4, h5, h6⟩ := c8H
 have a0 : hcW ((List.range 4096).map C8F) 0 = 1 := by unfold hcW; rw [hl, pw_range C8F (by omega)]; exact h1
 have b0 : hbW ((List.range 4096).map C8F) 0 = 255 := by unfold hbW; rw [hl, pw_range C8F (by omega)]; exact h2
 have a1 : hcW ((List.range 4096).map C8F) 1 = 3 := by unfold hcW; rw [hl, pw_range C8F (by omega)]; exact h3
 have b1 : hbW ((List.range 4096).map C8F) 1 = 1 := by unfold hbW; rw [hl, pw_range C8F (by omega)]; exact h4
 have a2 : hcW ((List.range 4096).map C8F) 2 = 0 := by unfold hcW; rw [hl, pw_range C8F (by omega)]; exact h5
 have b2 : hbW ((List.range 4096).map C8F) 2 = 0 := by unfold hbW; rw [hl, pw_range C8F (by omega)]; exact h6
 show [hdOf _ _ 0, hdOf _ _ 1, hdOf _ _ 2] = C8H
 unfold hdOf
 rw [a0, b0, a1, b1, a2, b2, show blK (blN 3) 1 (blN 3) = [2, 0, 0, 0, 0] by decide, show blK (blN 0) 0 (blN 0) = [] by decide]
 rfl
theorem c8_free : FreeB C8H 3 2304 := ⟨1, 1, ⟨2, 3, 1, [2, 0, 0, 0, 0]⟩, rfl, rfl, rfl, rfl⟩
theorem c8_took {hs1 hs' : List Hd} {e : Ending} (hc : Claimed C8H hs1 3) (ht : Took hs1 hs' 3 e) : hs' = C8H1 /\ e = .returned (.tuple #[wv 2304, .int .i64 0]) := by
 rcases hc with ⟨_, rfl⟩ | ⟨h, _⟩
 ·rcases ht with ⟨i, j, x, hx, hcl, hj, hmin, rfl, rfl⟩ | ⟨h, _⟩
  ·have hm := hmin 2304 c8_free
   have hi : i < 3 := by
    have := (List.getElem?_eq_some_iff.1 hx).1
    exact this
   rcases (by omega : i = 0 \/ i = 1 \/ i = 2) with rfl | rfl | rfl
   ·have hx : some (⟨1, 1, 255, blK 15 255 15⟩ : Hd) = some x := hx
    obtain rfl := Option.some.inj hx
    exact absurd hcl (by decide)
   ·have hx : some (⟨2, 3, 1, [2, 0, 0, 0, 0]⟩ : Hd) = some x := hx
    obtain rfl := Option.some.inj hx
    have hj : ([2, 0, 0, 0, 0] : List Nat)[j]? = some 0 := hj
    have hm : 1024 * 2 + 64 + 64 * 3 * j <= 2304 := hm
    rcases (by omega : j = 0 \/ j = 1) with rfl | rfl
    ·exact absurd hj (by decide)
    ·exact ⟨rfl, rfl⟩
   ·have hx : some (⟨3, 0, 0, []⟩ : Hd) = some x := hx
    obtain rfl := Option.some.inj hx
    exact absurd hcl (by decide)
  ·exact absurd c8_free (h 2304)
 ·exact absurd c8_free (h 2304)
end Go.Proofs.YtkbklooocdfcfaaGreatDoor
