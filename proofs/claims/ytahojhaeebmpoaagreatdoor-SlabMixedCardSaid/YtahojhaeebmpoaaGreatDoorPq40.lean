/- Texts of this claim, packed: 6Ge, 6Dq, 6Sq, 6Do6. -/
import Derived.Test.YtahojhaeebmpoaaGreatDoorPq39
import Derived.Test.YtahojhaeebmpoaaGreatDoorPq30
import Derived.Maps.AppendAt
import Derived.Laws.AppendOwnNone
import Derived.Deep.QuietTactic
import Derived.Deep.DeepCutAuto
import Derived.Deep.CutBlock
/- Publish, Free, the turn that begins; an eviction; a step of a turn; over one predicate of the world. -/
namespace Go.Proofs.YtahojhaeebmpoaaGreatDoor
open Go Go.RowKit Go.Sort
set_option linter.unusedVariables false
/-- A turn that began, and is not in the list as yet. -/
def BegD (w0 : World) (P0 : Nat → Prop) (B size gg mg gs gw : Nat) (z : S6) (i j : Nat) (x : Hd) (v cl gt : Nat) (w : World) : Prop :=
  ∃ y n xs, G6 w0 P0 w B size y ⟨z.s, z.hs.set i { x with bl := x.bl.set j v }, z.cls, z.L, z.T⟩ n xs ∧ y.gg = gg ∧ y.m.g = mg ∧ y.s.gs = gs ∧ y.gw = gw ∧ n = z.T.length ∧ xs = flatT z.T ∧
    TAt w y.m y.s gt (cl : Int) i j (plF 0) false 0 ∧ w0.heap.size ≤ gt ∧ (∀ u ∈ z.T, u.gt ≠ gt)
theorem flatT_len (T : List Tu) : (flatT T).length = 4 * T.length := by
  unfold flatT
  induction T with
  | nil => rfl
  | cons t T ih => rw [List.flatMap_cons, List.length_append, ih]; simp [turn6V]; omega
theorem flatT_snoc (T : List Tu) (t : Tu) : flatT (T ++ [t]) = flatT T ++ turn6V (fpt t.gt) t.a (settled t.v) t.k := by unfold flatT; simp
theorem flatT_get : ∀ (T : List Tu) (q : Nat) (t : Tu), T[q]? = some t → (flatT T)[q * 4]? = some (fpt t.gt) ∧ (flatT T)[q * 4 + 1]? = some (wv t.a) ∧ (flatT T)[q * 4 + 2]? = some (jv (settled t.v)) ∧ (flatT T)[q * 4 + 3]? = some (jv t.k)
  | [], q, t, h => by simp at h
  | u :: T, 0, t, h => by
    simp at h
    subst h
    exact ⟨rfl, rfl, rfl, rfl⟩
  | u :: T, q + 1, t, h => by
    have h1 := flatT_get T q t (by simpa using h)
    have e : flatT (u :: T) = turn6V (fpt u.gt) u.a (settled u.v) u.k ++ flatT T := by unfold flatT; simp
    rw [e]
    have hl : (turn6V (fpt u.gt) u.a (settled u.v) u.k).length = 4 := rfl
    have g : ∀ m, (turn6V (fpt u.gt) u.a (settled u.v) u.k ++ flatT T)[m + 4]? = (flatT T)[m]? := fun m => by
      rw [List.getElem?_append_right (by rw [hl]; omega), hl]; congr 1
    refine ⟨?_, ?_, ?_, ?_⟩
    · rw [show (q + 1) * 4 = q * 4 + 4 from by omega, g]; exact h1.1
    · rw [show (q + 1) * 4 + 1 = q * 4 + 1 + 4 from by omega, g]; exact h1.2.1
    · rw [show (q + 1) * 4 + 2 = q * 4 + 2 + 4 from by omega, g]; exact h1.2.2.1
    · rw [show (q + 1) * 4 + 3 = q * 4 + 3 + 4 from by omega, g]; exact h1.2.2.2
theorem flatT_setk : ∀ (T : List Tu) (q : Nat) (t : Tu) (k : Nat), T[q]? = some t → (flatT T).set (q * 4 + 3) (jv k) = flatT (T.set q { t with k := k })
  | [], q, t, k, h => by simp at h
  | u :: T, 0, t, k, h => by
    simp at h
    subst h
    rfl
  | u :: T, q + 1, t, k, h => by
    have h1 := flatT_setk T q t k (by simpa using h)
    have e : ∀ (v : Tu) (M : List Tu), flatT (v :: M) = turn6V (fpt v.gt) v.a (settled v.v) v.k ++ flatT M := fun v M => by unfold flatT; simp
    rw [List.set_cons_succ, e, e, ← h1, show (q + 1) * 4 + 3 = (q * 4 + 3) + 4 from by omega]
    rfl
theorem flatT_take (T : List Tu) (q : Nat) : (flatT T).take (4 * q) = flatT (T.take q) := by
  induction q generalizing T with
  | zero => simp [flatT]
  | succ q ih =>
    cases T with
    | nil => simp [flatT]
    | cons t T =>
      have e : ∀ (v : Tu) (M : List Tu), flatT (v :: M) = turn6V (fpt v.gt) v.a (settled v.v) v.k ++ flatT M := fun v M => by unfold flatT; simp
      rw [List.take_succ_cons, e, e, ← ih, show 4 * (q + 1) = 4 * q + 4 from by omega]
      rfl
theorem flatT_drop (T : List Tu) (q : Nat) : (flatT T).drop (4 * q) = flatT (T.drop q) := by
  induction q generalizing T with
  | zero => simp
  | succ q ih =>
    cases T with
    | nil => simp [flatT]
    | cons t T =>
      have e : ∀ (v : Tu) (M : List Tu), flatT (v :: M) = turn6V (fpt v.gt) v.a (settled v.v) v.k ++ flatT M := fun v M => by unfold flatT; simp
      rw [List.drop_succ_cons, e, ← ih, show 4 * (q + 1) = 4 * q + 4 from by omega]
      rfl
theorem flatT_append (T U : List Tu) : flatT (T ++ U) = flatT T ++ flatT U := by unfold flatT; simp
section
variable {w0 w w' : World} {P0 : Nat → Prop} {B size gg mg gs gw n : Nat} {z : S6} {y : Z6} {xs : List Value}
/-- Behind a place's call the turn is apart, the rest as it was. -/
theorem G6.place (G : G6 w0 P0 w B size y z n xs) {q : Nat} {t : Tu} (ht : z.T[q]? = some t) {c code : Int} {f : FuncId} {d : Bool} {s' : St} {hs' : List Hd} (hp : PlacePost w y.m y.s t.gt c t.i t.j f d code s' hs' w') :
    ∃ m' s1, G6 w0 P0 w' B size ⟨m', s1, y.gg, y.gw, y.vt, y.vc, y.vl⟩ ⟨s', hs', z.cls, z.L, z.T.eraseIdx q⟩ n xs ∧ TAt w' m' s1 t.gt c t.i t.j f d code ∧ m'.g = y.m.g ∧ s1.gs = y.s.gs := by
  obtain ⟨m', s1, fs', g', T', t'⟩ := hp
  have htm := List.mem_of_getElem? ht
  have hne : ∀ u ∈ z.T.eraseIdx q, u.gt ≠ t.gt := fun u hu e => by
    obtain ⟨k, hk, hk2⟩ := List.mem_eraseIdx_iff_getElem?.1 hu
    have hnd := List.pairwise_iff_getElem.1 (List.pairwise_map.1 G.gts)
    obtain ⟨q1, rfl⟩ := List.getElem?_eq_some_iff.1 ht
    obtain ⟨k1, rfl⟩ := List.getElem?_eq_some_iff.1 hk2
    rcases Nat.lt_or_gt_of_ne hk with hl | hl
    · exact hnd k q k1 q1 hl e
    · exact hnd q k q1 k1 hl e.symm
  have hsub : ∀ u ∈ z.T.eraseIdx q, u ∈ z.T := fun u hu => List.mem_of_mem_eraseIdx hu
  have G1 := G.turns (z.T.eraseIdx q) (fun u hu => G.ta u (hsub u hu)) (G.gts.sublist ((List.eraseIdx_sublist _ _).map _)) (fun u hu => G.tfp (hsub u hu))
  exact ⟨m', s1, G1.gturn g' t' (.inl ⟨G.tat htm, G.tfp htm⟩) hne, T', t'.g, t'.gs⟩
/-- The turn is in its place again, a step further. -/
theorem G6.back {q : Nat} (G : G6 w0 P0 w B size y ⟨z.s, z.hs, z.cls, z.L, z.T.eraseIdx q⟩ n xs) {t : Tu} (ht : z.T[q]? = some t) (hg : (z.T.map Tu.gt).Nodup) (hf : P0 t.gt ∨ w0.heap.size ≤ t.gt) {k : Nat} (T : TAt w y.m y.s t.gt (t.cl : Int) t.i t.j (plF k) false 0) :
    G6 w0 P0 w B size y ⟨z.s, z.hs, z.cls, z.L, z.T.set q { t with k := k }⟩ n xs := by
  have hmem : ∀ u ∈ z.T.set q { t with k := k }, u = { t with k := k } ∨ u ∈ z.T.eraseIdx q := fun u hu => by
    obtain ⟨p, hp⟩ := List.mem_iff_getElem?.1 hu
    rw [List.getElem?_set] at hp
    by_cases e : q = p
    · subst e
      rw [if_pos rfl, if_pos (List.getElem?_eq_some_iff.1 ht).1] at hp
      exact .inl (Option.some.inj hp).symm
    · rw [if_neg e] at hp
      exact .inr (List.mem_eraseIdx_iff_getElem?.2 ⟨p, fun h => e h.symm, hp⟩)
  have hmap : (z.T.set q { t with k := k }).map Tu.gt = z.T.map Tu.gt := by
    apply List.ext_getElem?
    intro i
    rw [List.getElem?_map, List.getElem?_map, List.getElem?_set]
    by_cases hi : q = i
    · subst hi; rw [if_pos rfl, if_pos (List.getElem?_eq_some_iff.1 ht).1, ht]; rfl
    · rw [if_neg hi]
  refine G.turns _ (fun u hu => ?_) (by rw [hmap]; exact hg) (fun u hu => ?_)
  · rcases hmem u hu with rfl | h
    · exact T
    · exact G.ta u h
  · rcases hmem u hu with rfl | h
    · exact hf
    · exact G.tfp (t := u) h
/-- The game in its place; its turns' slice is vt, of n turns, whose cells are xs. -/
def TD (w0 : World) (P0 : Nat → Prop) (B size gg mg gs gw : Nat) (vt : Value) (z : S6) (n : Nat) (xs : List Value) (w : World) : Prop :=
  ∃ y, G6 w0 P0 w B size y z n xs ∧ y.gg = gg ∧ y.m.g = mg ∧ y.s.gs = gs ∧ y.gw = gw ∧ y.vt = vt
theorem GD.open (G : GD w0 P0 B size gg mg gs gw (RQ z) w) : ∃ vt, TD w0 P0 B size gg mg gs gw vt z z.T.length (flatT z.T) w := by
  obtain ⟨y, z, n, xs, G, h1, h2, h3, h4, rfl, rfl, rfl⟩ := G
  exact ⟨_, y, G, h1, h2, h3, h4, rfl⟩
theorem TD.shut {vt : Value} (G : TD w0 P0 B size gg mg gs gw vt z z.T.length (flatT z.T) w) : GD w0 P0 B size gg mg gs gw (RQ z) w := by
  obtain ⟨y, G, h1, h2, h3, h4, h5⟩ := G
  exact ⟨y, z, _, _, G, h1, h2, h3, h4, rfl, rfl, rfl⟩
/-- What a step leaves of the turn q: a step further, or out. -/
def stepT (z : S6) (q : Nat) (t : Tu) (x : Hd) : S6 :=
  if t.k = 0 then ⟨z.s.store (1024 * x.no) x.cls, z.hs, z.cls, z.L, z.T.set q { t with k := 1 }⟩
  else if t.k = 1 then ⟨z.s.store (1024 * x.no + 8) (bitV t.v x.bits t.j), z.hs.set t.i { x with bits := bitV t.v x.bits t.j }, z.cls, z.L, z.T.set q { t with k := 2 }⟩
  else if t.k = 2 then ⟨z.s.flush t.cl (1024 * x.no), z.hs, z.cls, z.L, z.T.set q { t with k := 3 }⟩
  else ⟨z.s.fence t.cl, z.hs.set t.i { x with bl := x.bl.set t.j (settled t.v) }, z.cls, z.L, z.T.eraseIdx q⟩
theorem TD.stepq {vt : Value} (G : TD w0 P0 B size gg mg gs gw vt z n xs w) {N q : Nat} {t : Tu} {x : Hd} (hI : Inv6 N z) (hN : N ≤ 900) (ht : z.T[q]? = some t) (hx : z.hs[t.i]? = some x) :
    Calls Tryz.prog 73 #[.pointer (some ⟨mg, 0, none⟩), .pointer (some ⟨t.gt, 0, none⟩)] w fun e w' => e = .returned (.tuple #[.bool (decide (t.k = 3)), .bool true]) ∧ TD w0 P0 B size gg mg gs gw vt (stepT z q t x) n xs w' := by
  obtain ⟨y, G, rfl, rfl, rfl, rfl, rfl⟩ := G
  obtain ⟨fs, g⟩ := G.gm
  have htm := List.mem_of_getElem? ht
  obtain ⟨x', hx', hv, ha, h34, hk3, hcl⟩ := hI.tn t htm
  rw [hx] at hx'
  cases hx'
  have hd := hI.did
  have hdd : didN z.s = z.s.ld + z.s.st + z.s.fl + z.s.fe := rfl
  have hT := G.ta t htm
  have hgt : t.gt ≠ 0 := fun e => by
    have h1 := G.tfp htm
    have h2 := G.rb
    rw [e] at h1
    rcases h1 with h1 | h1
    · have := G.pb _ h1; omega
    · have := G.wb; omega
  have hpend : ∀ l ∈ z.s.pend, l.length + 1 ≤ 1000000000 := fun l hl => by have := hI.pend l hl; omega
  have TB := fun (W : World) (hb : Below w.heap.size w W) => (Row.below hT hb hT.lt : TAt W y.m y.s t.gt (t.cl : Int) t.i t.j (plF t.k) false 0)
  have hk : t.k = 0 ∨ t.k = 1 ∨ t.k = 2 ∨ t.k = 3 := by omega
  unfold stepT
  rcases hk with h | h | h | h
  · rw [h] at TB
    rw [if_pos h, h]
    refine (step6_any g.pm (by omega) (did_store _ _ _) fun W hb => step0 (g.below hb) (TB W hb) hgt hx (by omega) hpend).mono fun e w' ⟨he, hp⟩ => ⟨he, ?_⟩
    obtain ⟨m', s1, G1, T1, e1, e2⟩ := G.place ht hp
    exact ⟨_, G6.back (z := ⟨_, _, z.cls, z.L, z.T⟩) G1 ht G.gts (G.tfp htm) (k := 1) T1, rfl, e1, e2, rfl, rfl⟩
  · rw [h] at TB
    rw [if_neg (by omega), if_pos h, h]
    refine (step6_any g.pm (by omega) (did_store _ _ _) fun W hb => step1 (g.below hb) (TB W hb) hgt hx hv (bits_mem hI.bits hx) (by omega) hpend).mono fun e w' ⟨he, hp⟩ => ⟨he, ?_⟩
    obtain ⟨m', s1, G1, T1, e1, e2⟩ := G.place ht hp
    exact ⟨_, G6.back (z := ⟨_, _, z.cls, z.L, z.T⟩) G1 ht G.gts (G.tfp htm) (k := 2) T1, rfl, e1, e2, rfl, rfl⟩
  · rw [h] at TB
    rw [if_neg (by omega), if_neg (by omega), if_pos h, h]
    refine (step6_any g.pm (by omega) (did_flush _ _ _) fun W hb => step2 (g.below hb) (TB W hb) hgt hcl hx (by omega)).mono fun e w' ⟨he, hp⟩ => ⟨he, ?_⟩
    obtain ⟨m', s1, G1, T1, e1, e2⟩ := G.place ht hp
    exact ⟨_, G6.back (z := ⟨_, _, z.cls, z.L, z.T⟩) G1 ht G.gts (G.tfp htm) (k := 3) T1, rfl, e1, e2, rfl, rfl⟩
  · rw [h] at TB
    rw [if_neg (by omega), if_neg (by omega), if_neg (by omega), h]
    refine (step6_any g.pm (by omega) (did_fence _ _) fun W hb => step3 (g.below hb) (TB W hb) hgt hcl hx hv (by omega) (by omega)).mono fun e w' ⟨he, hp⟩ => ⟨he, ?_⟩
    obtain ⟨m', s1, G1, T1, e1, e2⟩ := G.place ht hp
    exact ⟨_, G1, rfl, e1, e2, rfl, rfl⟩
theorem GD.hpos (G : GD w0 P0 B size gg mg gs gw (RQ z) w) : 0 < z.hs.length := by
  obtain ⟨y, z, n, xs, ⟨_, ⟨fs, g⟩, _⟩, h1, h2, h3, h4, rfl, _⟩ := G
  exact g.mem.pos
theorem GD.pub_ok (G : GD w0 P0 B size gg mg gs gw (RQ z) w) {cl : Nat} (hc : cl ≤ 64) {i j a : Nat} {x : Hd} (hx : z.hs[i]? = some x) (hj : x.bl[j]? = some 1) (ha : adr x.no x.cls j = a) :
    Calls Tryz.prog 31 #[.pointer (some ⟨gs, 0, none⟩), .pointer (some ⟨mg, 0, none⟩), .int .i64 (cl : Int), .int .u64 (a : Int)] w fun e w' => ∃ gt, e = .returned (.tuple #[.pointer (some ⟨gt, 0, none⟩), .int .i64 0]) ∧ BegD w0 P0 B size gg mg gs gw z i j x 4 cl gt w' := by
  obtain ⟨y, z, n, xs, G, h1, rfl, rfl, h4, rfl, h5, h6⟩ := G
  obtain ⟨fs, g⟩ := G.gm
  have hf : fitsM z.s.nl z.hs.length (cl : Int) = true := by
    unfold fitsM
    rw [inB_yes (by omega), Bool.and_true]
    exact decide_eq_true g.size
  refine (publish_ok g.mem g.ho g.rs g.pm hf hx hj ha).mono fun e w' ⟨gt, he, hr, hgt, hm, t⟩ => ⟨gt, he, ?_⟩
  exact ⟨_, n, xs, G.onSlab hm (g.ho.set_bl hx) (g.fo.turn hx hj (by decide) (by decide)) (by simp) t, h1, rfl, rfl, h4, h5, h6, hr, Nat.le_trans G.w0w hgt, fun u hu => by have := (G.tat hu).lt; omega⟩
theorem GD.free_ok (G : GD w0 P0 B size gg mg gs gw (RQ z) w) {cl : Nat} (hc : cl ≤ 64) {i j a : Nat} {x : Hd} (hx : z.hs[i]? = some x) (hj : x.bl[j]? = some 2) (ha : adr x.no x.cls j = a) :
    Calls Tryz.prog 54 #[.pointer (some ⟨gs, 0, none⟩), .pointer (some ⟨mg, 0, none⟩), .int .i64 (cl : Int), .int .u64 (a : Int)] w fun e w' => ∃ gt, e = .returned (.tuple #[.pointer (some ⟨gt, 0, none⟩), .int .i64 0]) ∧ BegD w0 P0 B size gg mg gs gw z i j x 3 cl gt w' := by
  obtain ⟨y, z, n, xs, G, h1, rfl, rfl, h4, rfl, h5, h6⟩ := G
  obtain ⟨fs, g⟩ := G.gm
  have hf : fitsM z.s.nl z.hs.length (cl : Int) = true := by
    unfold fitsM
    rw [inB_yes (by omega), Bool.and_true]
    exact decide_eq_true g.size
  refine (Go.Proofs.YtahojhaeebmpoaaGreatDoor.free_ok g.mem g.ho g.rs g.pm hf hx hj ha).mono fun e w' ⟨gt, he, hr, hgt, hm, t⟩ => ⟨gt, he, ?_⟩
  exact ⟨_, n, xs, G.onSlab hm (g.ho.set_bl hx) (g.fo.turn hx hj (by decide) (by decide)) (by simp) t, h1, rfl, rfl, h4, h5, h6, hr, Nat.le_trans G.w0w hgt, fun u hu => by have := (G.tat hu).lt; omega⟩
theorem BegD.start {N i j u v cl gt a : Nat} {x : Hd} (G : BegD w0 P0 B size gg mg gs gw z i j x v cl gt w) (hI : Inv6 N z) (hN : N ≤ 900) (hc : cl ≤ 64) (hx : z.hs[i]? = some x) (hj : x.bl[j]? = some u) (ha : adr x.no x.cls j = a) (huv : u = 1 ∧ v = 4 ∨ u = 2 ∧ v = 3) :
    Calls Tryz.prog 53 #[.pointer (some ⟨gg, 0, none⟩), .int .u64 (a : Int), .int .i64 (cl : Int), .int .i64 (u : Int), .int .i64 (v : Int), .int .i64 (settled v : Int), .pointer (some ⟨gt, 0, none⟩), .int .i64 0] w fun e w' => e = .returned (.bool true) ∧ ∃ z', Step6 z z' ∧ z' = ⟨z.s, z.hs.set i { x with bl := x.bl.set j v }, z.cls, setL z.L a v, z.T ++ [⟨gt, i, j, a, cl, 0, v⟩]⟩ ∧ GD w0 P0 B size gg mg gs gw (RQ z') w' := by
  obtain ⟨y, n, xs, G, rfl, h2, h3, rfl, rfl, rfl, T, hgt, hne⟩ := G
  have hjl := (List.getElem?_eq_some_iff.1 hj).1
  have hL := hI.ll
  have hw : isL z.L a = u := hI.wis.at_ a u (.inl ⟨i, j, x, hx, hjl, ha, hj⟩)
  refine (start6_ok (now := v) (tt := settled v) (gt := gt) G.row G.w6 G.tn (by show z.L.length ≤ _; omega) G.bw (by have := hI.tl; omega) (c := (cl : Int)) ⟨by omega, by omega⟩ hw).mono fun e w' ⟨he, vl', vt', hr, h6, htn, hv, hb⟩ => ⟨he, _, .start z i j x u v gt cl hx hj huv hc, by rw [ha], ?_⟩
  have hb2 : But w w' (fun q => q = y.gw ∨ q = y.gg ∨ y.vt.ownBlock = some q ∨ y.vc.ownBlock = some q) := hb.mono fun k h => by
    rcases h with h | h | h
    · exact .inl h
    · exact .inr (.inl h)
    · exact .inr (.inr (.inl h))
  have G2 := G.own hr h6 htn hb2 hv
  have Tr : Row w gt 165 _ := T
  have T2 : TAt w' y.m y.s gt (cl : Int) i j (plF 0) false 0 := hb.row Tr fun h => by
    rcases h with h | h | h
    · exact tagNe Tr.tag G.w6.row.tag (by decide) h
    · exact tagNe Tr.tag G.row.tag (by decide) h
    · exact tagNe Tr.tag (own_tag G.tn h) (by decide) rfl
  have G3 := G2.turns (z.T ++ [⟨gt, i, j, a, cl, 0, v⟩]) (fun u hu => by
    rcases List.mem_append.1 hu with h | h
    · exact G2.ta u h
    · rw [List.mem_singleton.1 h]; exact T2) (by
    rw [List.map_append, List.nodup_append]
    refine ⟨G.gts, by simp, fun p hp r hr e => ?_⟩
    obtain ⟨u, hu, rfl⟩ := List.mem_map.1 hp
    simp at hr
    exact hne u hu (e.trans hr)) (fun u hu => by
    rcases List.mem_append.1 hu with h | h
    · exact G2.tfp (t := u) h
    · rw [List.mem_singleton.1 h]; exact .inr hgt)
  refine ⟨_, _, _, _, G3, rfl, h2, h3, rfl, by rw [ha], by simp, ?_⟩
  rw [flatT_snoc]
  rw [ha]
end
end Go.Proofs.YtahojhaeebmpoaaGreatDoor
/- The law's game within one of its acts: what holds at each moment. -/
namespace Go.Proofs.YtahojhaeebmpoaaGreatDoor
open Go Go.RowKit Go.Sort
set_option linter.unusedVariables false
/-- The cells that an act reads: the game's own, and its own. -/
def SG6 (gg ad mg gs gw : Nat) (n : Int) (a : Nat) (c : Int) (W : World) : Prop :=
  W.cell? ⟨gg, 0, none⟩ = some (.pointer (some ⟨mg, 0, none⟩)) ∧ W.cell? ⟨gg, 1, none⟩ = some (.pointer (some ⟨gs, 0, none⟩)) ∧ W.cell? ⟨gg, 2, none⟩ = some (.pointer (some ⟨gw, 0, none⟩)) ∧
  W.cell? ⟨ad, 1, none⟩ = some (.int .i64 n) ∧ W.cell? ⟨ad, 2, none⟩ = some (.int .u64 (a : Int)) ∧ W.cell? ⟨ad, 3, none⟩ = some (.int .i64 c)
/-- The act's own cells, in a world since which nothing of P alone has turned. -/
def AA6 (W1 : World) (P : Nat → Prop) (ad : Nat) (k n : Int) (a : Nat) (c : Int) : Prop := Row W1 ad 45 #[.int .i64 k, .int .i64 n, .int .u64 (a : Int), .int .i64 c] ∧ ¬ P ad
section
variable {w0 w w' W1 : World} {P0 P : Nat → Prop} {B size gg mg gs gw ad : Nat} {Q : World → Z6 → S6 → Nat → List Value → Prop} {z : S6} {k n c : Int} {a : Nat}
theorem G6.sg {y : Z6} {m : Nat} {xs : List Value} (G : G6 W1 P w B size y z m xs) (A : AA6 W1 P ad k n a c) : SG6 y.gg ad y.m.g y.s.gs y.gw n a c w := by
  have hr := G.but.row A.1 A.2
  refine ⟨?_, ?_, ?_, ?_, ?_, ?_⟩
  · rw [G.row.cell]; rfl
  · rw [G.row.cell]; rfl
  · rw [G.row.cell]; rfl
  · rw [hr.cell]; rfl
  · rw [hr.cell]; rfl
  · rw [hr.cell]; rfl
theorem GD.sg (G : GD W1 P B size gg mg gs gw Q w) (A : AA6 W1 P ad k n a c) : SG6 gg ad mg gs gw n a c w := by
  obtain ⟨y, z, m, xs, G, rfl, rfl, rfl, rfl, _⟩ := G
  exact G.sg A
theorem ResD.sg {q : Nat} {X E : Int} (G : ResD W1 P B size gg mg gs gw z q X E w) (A : AA6 W1 P ad k n a c) : SG6 gg ad mg gs gw n a c w := by
  obtain ⟨_, _, _, _, G⟩ := G
  exact G.sg A
theorem BegD.sg {i j v cl gt : Nat} {x : Hd} (G : BegD W1 P B size gg mg gs gw z i j x v cl gt w) (A : AA6 W1 P ad k n a c) : SG6 gg ad mg gs gw n a c w := by
  obtain ⟨y, m, xs, G, rfl, rfl, rfl, rfl, _⟩ := G
  exact G.sg A
theorem ResD.drew {q : Nat} {X E : Int} (G : ResD W1 P B size gg mg gs gw z q X E w) : ResD W1 P B size gg mg gs gw z q X E w.drew := by
  obtain ⟨h1, h2, h3, h4, G⟩ := G
  exact ⟨h1, h2, h3, h4, G.drew⟩
theorem G6.fp_lt {y : Z6} {m : Nat} {xs : List Value} (G : G6 W1 P w B size y z m xs) {q : Nat} (hq : y.fp z.T q) : q < w.heap.size := by
  obtain ⟨fs, g⟩ := G.gm
  rcases hq with h | h | h | h | h | h | ⟨t, ht, h⟩
  · exact g.pm.lt _ h
  · exact g.mem.lt h
  · rw [h]; exact G.row.lt
  · rw [h]; exact G.w6.row.lt
  · exact (own_tag G.tn h).lt
  · exact (own_tag G.w6.cls h).lt
  · rw [h]; exact (G.tat ht).lt
theorem GD.start (G : GD w0 P0 B size gg mg gs gw (RQ z) w) (k n c : Int) (a : Nat) :
    ∃ W1 P, GD W1 P B size gg mg gs gw (RQ z) (w.alloc (.cells #[.int .i64 k, .int .i64 n, .int .u64 (a : Int), .int .i64 c] 45)) ∧ AA6 W1 P w.heap.size k n a c ∧ ∀ z' w', GD W1 P B size gg mg gs gw (RQ z') w' → GD w0 P0 B size gg mg gs gw (RQ z') w' := by
  have hb := alloc_below w (.cells #[.int .i64 k, .int .i64 n, .int .u64 (a : Int), .int .i64 c] 45)
  have hA : Row (w.alloc (.cells #[.int .i64 k, .int .i64 n, .int .u64 (a : Int), .int .i64 c] 45)) w.heap.size 45 #[.int .i64 k, .int .i64 n, .int .u64 (a : Int), .int .i64 c] := Row.new _ _ _
  obtain ⟨y, z, m, xs, g, h1, h2, h3, h4, h5⟩ := G
  have g2 := g.below hb
  have hpb : ∀ q, y.fp z.T q → B ≤ q := fun q hq => by
    rcases g.fp q hq with h | h
    · exact g.pb q h
    · exact Nat.le_trans g.wb h
  refine ⟨_, y.fp z.T, ⟨y, z, m, xs, { g2 with but := But.refl _ _, fp := fun q hq => .inl hq, pb := hpb, wb := g2.bw }, h1, h2, h3, h4, h5⟩, ⟨hA, fun h => Nat.lt_irrefl _ (g.fp_lt h)⟩, ?_⟩
  rintro z' w' ⟨y', z2, m', xs', G', e1, e2, e3, e4, e5⟩
  exact ⟨y', z2, m', xs', { G' with
    but := g2.but.more G'.but (fun q hq => g.fp q hq)
    pb := g.pb
    wb := g.wb
    fp := fun q hq => by
     rcases G'.fp q hq with h | h
     · exact g.fp q h
     · exact .inr (Nat.le_trans g2.w0w h) }, e1, e2, e3, e4, e5⟩
end
/-- What an act leaves. -/
def Do6P (w0 : World) (P0 : Nat → Prop) (B size gg mg gs gw : Nat) (z : S6) (R : S6 → Prop) (e : Ending) (w' : World) : Prop := e = .returned (.bool true) ∧ ∃ z', Step6 z z' ∧ R z' ∧ GD w0 P0 B size gg mg gs gw (RQ z') w'
end Go.Proofs.YtahojhaeebmpoaaGreatDoor
/- A step of a turn in the law's game: what holds at each moment, and what its stores, its appends leave. -/
namespace Go.Proofs.YtahojhaeebmpoaaGreatDoor
open Go Go.RowKit Go.Sort
set_option linter.unusedVariables false
theorem own_at4 {w : World} {B n : Nat} {v : Value} {xs : List Value} (h : w.ownsRow B 154 4 v n xs) : ∃ A c, v = .slice A n c := by
  rcases h.2 with ⟨rfl, h0⟩ | ⟨g, cap, cur, rfl, _⟩
  · subst h0; exact ⟨_, _, rfl⟩
  · exact ⟨_, _, rfl⟩
theorem own_form4 {w : World} {B n : Nat} {v : Value} {xs : List Value} (h : w.ownsRow B 154 4 v n xs) (hn : 0 < n) : ∃ g cap, v = .slice (some ⟨g, 0, none⟩) n cap ∧ n ≤ cap := by
  rcases h.2 with ⟨_, h0⟩ | ⟨g, cap, cur, rfl, _, _, hnc, _⟩
  · omega
  · exact ⟨g, cap, rfl, hnc⟩
/-- One cell of a slice of one's own is stored. -/
theorem own_cellset {w : World} {B n k g j : Nat} {e : TypeId} {A : Option Addr} {m c : Nat} {xs : List Value} (h : w.ownsRow B e k (.slice A m c) n xs) (hg : A = some ⟨g, 0, none⟩) (u : Value) (hj : j < xs.length) : (w.setCell ⟨g, j, none⟩ u).ownsRow B e k (.slice A m c) n (xs.set j u) := by
  subst hg
  refine ⟨by rw [List.length_set]; exact h.1, ?_⟩
  rcases h.2 with ⟨h0, _⟩ | ⟨g2, cap, cur, hv, hB, hgr, hnc, hcm, hcs, htake⟩
  · cases h0
  · cases hv
    refine .inr ⟨g, c, cur.setIfInBounds j u, rfl, hB, heap_setCell_same w g j cur e u hgr, hnc, hcm, by rw [Array.size_setIfInBounds]; exact hcs, ?_⟩
    rw [Array.toList_setIfInBounds, List.take_set, htake]
section
variable {w0 w w' : World} {P0 : Nat → Prop} {B size gg mg gs gw n : Nat} {vt : Value} {z : S6} {xs : List Value}
theorem TD.below (G : TD w0 P0 B size gg mg gs gw vt z n xs w) (hb : Below w.heap.size w w') : TD w0 P0 B size gg mg gs gw vt z n xs w' := by
  obtain ⟨y, G, h⟩ := G
  exact ⟨y, G.below hb, h⟩
theorem TD.own (G : TD w0 P0 B size gg mg gs gw vt z n xs w) : w.ownsRow B 154 4 vt n xs := by
  obtain ⟨y, G, h1, h2, h3, h4, rfl⟩ := G
  exact G.tn
/-- The cells that a step reads: the game's own; a turn's, o its place. -/
def ST6 (gg mg gw tb m cap o : Nat) (x0 x1 x2 x3 : Value) (W : World) : Prop :=
  W.cell? ⟨gg, 0, none⟩ = some (.pointer (some ⟨mg, 0, none⟩)) ∧ W.cell? ⟨gg, 2, none⟩ = some (.pointer (some ⟨gw, 0, none⟩)) ∧ W.cell? ⟨gg, 3, none⟩ = some (.slice (some ⟨tb, 0, none⟩) m cap) ∧
  W.cell? ⟨tb, o * 4, none⟩ = some x0 ∧ W.cell? ⟨tb, o * 4 + 1, none⟩ = some x1 ∧ W.cell? ⟨tb, o * 4 + 2, none⟩ = some x2 ∧ W.cell? ⟨tb, o * 4 + 3, none⟩ = some x3
theorem own_cell4 {w : World} {B n g : Nat} {v : Value} {xs : List Value} (h : w.ownsRow B 154 4 v n xs) (hg : v.ownBlock = some g) {j : Nat} {u : Value} (hj : xs[j]? = some u) : w.cell? ⟨g, j, none⟩ = some u := by
  have := h.cells hg j u hj
  rwa [Addr.add_lit, Nat.zero_add] at this
theorem TD.st {tb m cap : Nat} {U : List Tu} (G : TD w0 P0 B size gg mg gs gw (.slice (some ⟨tb, 0, none⟩) m cap) z n (flatT U) w) {q : Nat} {t : Tu} (ht : U[q]? = some t) :
    ST6 gg mg gw tb m cap q (.pointer (some ⟨t.gt, 0, none⟩)) (.int .u64 (t.a : Int)) (.int .i64 (settled t.v : Int)) (.int .i64 (t.k : Int)) w := by
  have ho := G.own
  obtain ⟨y, G, rfl, rfl, rfl, rfl, hv⟩ := G
  have hf := flatT_get U q t ht
  have hr := G.row
  rw [hv] at hr
  refine ⟨?_, ?_, ?_, own_cell4 ho rfl hf.1, own_cell4 ho rfl hf.2.1, own_cell4 ho rfl hf.2.2.1, own_cell4 ho rfl hf.2.2.2⟩
  · rw [hr.cell]; rfl
  · rw [hr.cell]; rfl
  · rw [hr.cell]; rfl
theorem TD.free {tb m cap : Nat} (G : TD w0 P0 B size gg mg gs gw (.slice (some ⟨tb, 0, none⟩) m cap) z n xs w) (j : Nat) : w.frozen? ⟨tb, j, none⟩ = false := by
  have ho := G.own
  rcases ho.2 with ⟨h0, _⟩ | ⟨g2, cap2, cur, hv, hB, hgr, _⟩
  · cases h0
  · cases hv
    exact frozen_of_row w tb j cur 154 hgr
theorem TD.gfree (G : TD w0 P0 B size gg mg gs gw vt z n xs w) (j : Nat) : w.frozen? ⟨gg, j, none⟩ = false := by
  obtain ⟨y, G, rfl, _⟩ := G
  exact G.row.free j
theorem TD.g3 (G : TD w0 P0 B size gg mg gs gw vt z n xs w) : w.cell? ⟨gg, 3, none⟩ = some vt := by
  obtain ⟨y, G, rfl, h2, h3, h4, rfl⟩ := G
  rw [G.row.cell]; rfl
/-- How many steps a turn did is stored. -/
theorem TD.setk {tb m cap : Nat} {U : List Tu} (G : TD w0 P0 B size gg mg gs gw (.slice (some ⟨tb, 0, none⟩) m cap) z n (flatT U) w) {q : Nat} {t : Tu} (ht : U[q]? = some t) (k : Nat) :
    TD w0 P0 B size gg mg gs gw (.slice (some ⟨tb, 0, none⟩) m cap) z n (flatT (U.set q { t with k := k })) (w.setCell ⟨tb, q * 4 + 3, none⟩ (.int .i64 (k : Int))) := by
  have ho := G.own
  obtain ⟨y, G, rfl, rfl, rfl, rfl, hv⟩ := G
  have hq := (List.getElem?_eq_some_iff.1 ht).1
  have ho2 := own_cellset ho rfl (jv k) (j := q * 4 + 3) (by rw [flatT_len]; omega)
  rw [flatT_setk U q t k ht] at ho2
  have htag : Tag w tb 154 := own_tag ho rfl
  have hr : Row (w.setCell ⟨tb, q * 4 + 3, none⟩ (.int .i64 (k : Int))) y.gg 51 _ := G.row.other (tagNe G.row.tag htag (by decide)) _
  have h6 : W6At (w.setCell ⟨tb, q * 4 + 3, none⟩ (.int .i64 (k : Int))) B y.gw size z.cls z.L y.vc y.vl :=
    ⟨G.w6.row.other (tagNe G.w6.row.tag htag (by decide)) _, own_setc G.w6.cls _ (fun g hg => tagNe (own_tag G.w6.cls hg) htag (by decide)), own_setc G.w6.bl _ (fun g hg => tagNe (own_tag G.w6.bl hg) htag (by decide)), G.w6.low⟩
  have hb : But w (w.setCell ⟨tb, q * 4 + 3, none⟩ (.int .i64 (k : Int))) (fun p => p = y.gw ∨ p = y.gg ∨ y.vt.ownBlock = some p ∨ y.vc.ownBlock = some p) := (But.refl _ _).set (.inr (.inr (.inl (by rw [hv]; rfl)))) _
  have G2 := G.own hr h6 (vt' := y.vt) (by rw [hv]; exact ho2) hb (.inl rfl)
  exact ⟨_, G2, rfl, rfl, rfl, rfl, hv⟩
theorem TD.set (G : TD w0 P0 B size gg mg gs gw vt z n xs w) (hL : z.L.length ≤ 1000000) (a v : Nat) :
    Calls Tryz.prog 52 #[.pointer (some ⟨gw, 0, none⟩), .int .u64 (a : Int), .int .i64 (v : Int)] w fun e w' => e = .returned (.tuple #[]) ∧ TD w0 P0 B size gg mg gs gw vt ⟨z.s, z.hs, z.cls, setL z.L a v, z.T⟩ n xs w' := by
  obtain ⟨y, G, h1, h2, h3, rfl, h5⟩ := G
  refine (r6Set_any G.w6 hL G.bw a v).mono fun e w' ⟨vl', W1, he, h6, hb, hw⟩ => ⟨he, ?_⟩
  subst hw
  have hbut : But w (W1.setCell ⟨y.gw, 2, none⟩ vl') (fun q => q = y.gw) := but_set6 hb rfl
  have hr : Row (W1.setCell ⟨y.gw, 2, none⟩ vl') y.gg 51 _ := hbut.row G.row (tagNe G.row.tag G.w6.row.tag (by decide))
  have ht := own_block G.tn fun k hk => hbut.block k (own_tag G.tn hk).lt (tagNe (own_tag G.tn hk) G.w6.row.tag (by decide))
  exact ⟨_, G.own hr h6 ht (hbut.mono fun k h => .inl h) (.inl rfl), h1, h2, h3, rfl, h5⟩
/-- A slice that is all new is the turns' now. -/
theorem TD.slice (G : TD w0 P0 B size gg mg gs gw vt z n xs w) {W : World} (hb : Below w.heap.size w W) {v' : Value} {n' : Nat} {xs' : List Value} (ho : W.ownsRow w.heap.size 154 4 v' n' xs') :
    TD w0 P0 B size gg mg gs gw v' z n' xs' (W.setCell ⟨gg, 3, none⟩ v') := by
  obtain ⟨y, G, rfl, rfl, rfl, rfl, rfl⟩ := G
  have hB := G.bw
  have hr0 := G.row.below hb G.row.lt
  have h60 := G.w6.below hb
  have hr : Row (W.setCell ⟨y.gg, 3, none⟩ v') y.gg 51 #[fpt y.m.g, fpt y.s.gs, fpt y.gw, v'] := hr0.set 3 v'
  have h6 := h60.setc (p := ⟨y.gg, 3, none⟩) v' hr0.tag
  have ho2 : (W.setCell ⟨y.gg, 3, none⟩ v').ownsRow B 154 4 v' n' xs' := own_setc (own_less ho hB) v' (fun g hg => tagNe (own_tag ho hg) hr0.tag (by decide))
  have hbut : But w (W.setCell ⟨y.gg, 3, none⟩ v') (fun p => p = y.gw ∨ p = y.gg ∨ y.vt.ownBlock = some p ∨ y.vc.ownBlock = some p) := But.set (But.of_below hb _) (.inr (.inl rfl)) _
  exact ⟨_, G.own hr h6 ho2 hbut (.inr fun k hk => own_base ho hk), rfl, rfl, rfl, rfl, rfl⟩
end
theorem info_turn6 : (Tryz.prog.info? 154).map (fun i => (i.zero, i.size, i.bytes)) = some (some (.agg #[.pointer none, .int .u64 0, .int .i64 0, .int .i64 0]), 4, 32) := by kernel_rfl
/-- Turns are appended to a slice of one's own. -/
theorem step_app6 {ops : Array Oper} {o : Oper} {a : Act} {w : World} {K : Act → World → Prop} {Q : Exit → Act → World → Prop} {E : Prop} (hw : Region.wanted o (yielded ops a.tmps) = true) (s x : Operand)
    (ho : o.op = .call { callee := .builtin .append, args := #[s, x], argTypes := #[49, 49] }) (B : Nat) (V : Value) (n : Nat) (xs : List Value) (hs : a.eval s = V) (hown : w.ownsRow B 154 4 V n xs)
    (ad : Addr) (m c : Nat) (news : List Value) (hx : a.eval x = .slice (some ad) m c) (hl : news.length = m * 4) (hc : ∀ j u, news[j]? = some u → w.cell? (ad.add j) = some u) (h1 : ∀ u ∈ news, u.oneCell' = true) (hn : n + m ≤ 1000000) (hB : B ≤ w.heap.size)
    (h : ∀ v' w', w'.ownsRow B 154 4 v' (n + m) (xs ++ news) → w.grownBy w' V.ownBlock → K (a.put o.dst v') w') : if Region.wanted o (yielded ops a.tmps) = true then Oper.wp Tryz.prog o a w K Q else E := by
  rw [if_pos hw]
  obtain ⟨i0, hi, hz0, hz1, hz2⟩ := info_parts info_turn6
  obtain ⟨v', w', hr, h2, h3, _⟩ := run_append_own_at (P := Tryz.prog) w B 49 o.type 154 i0 (.agg #[.pointer none, .int .u64 0, .int .i64 0, .int .i64 0]) 4 32 Tryz.underlying49 hi hz0 hz1 hz2 rfl (by decide) V n xs hown ad m c news hl hc h1 (by unfold maxLen; omega) (by omega) hB
  unfold Oper.wp execOp
  simp only [ho, resolve, invoke, builtin, Sem.run_bind, Sem.run_pure, Result.andThen_ok, List.map_toArray, List.map_cons, List.map_nil, hs, hx, hr]
  exact h v' w' h2 h3
theorem flatT_ones (T : List Tu) : ∀ u ∈ flatT T, u.oneCell' = true := by
  intro u hu
  obtain ⟨t, _, h⟩ := List.mem_flatMap.1 hu
  simp [turn6V] at h
  rcases h with rfl | rfl | rfl | rfl <;> rfl
/-- What a step of the game comes to. -/
def finT (z : S6) (q : Nat) (t : Tu) (x : Hd) : S6 := if t.k = 3 then ⟨z.s.fence t.cl, z.hs.set t.i { x with bl := x.bl.set t.j (settled t.v) }, z.cls, setL z.L t.a (settled t.v), z.T.eraseIdx q⟩ else stepT z q t x
theorem finT_step {n : Nat} {z : S6} {q : Nat} {t : Tu} {x : Hd} (hI : Inv6 n z) (ht : z.T[q]? = some t) (hx : z.hs[t.i]? = some x) : Step6 z (finT z q t x) := by
  obtain ⟨_, _, _, _, _, hk3, _⟩ := hI.tn t (List.mem_of_getElem? ht)
  unfold finT stepT
  by_cases h3 : t.k = 3
  · rw [if_pos h3]; exact .t3 z q t x ht h3 hx
  · rw [if_neg h3]
    by_cases h0 : t.k = 0
    · rw [if_pos h0]; exact .t0 z q t x ht h0 hx
    · rw [if_neg h0]
      by_cases h1 : t.k = 1
      · rw [if_pos h1]; exact .t1 z q t x ht h1 hx
      · rw [if_neg h1, if_pos (by omega)]; exact .t2 z q t x ht (by omega) hx
theorem stepT_T {z : S6} {q : Nat} {t : Tu} {x : Hd} (hk : t.k < 3) : (stepT z q t x).T = z.T.set q { t with k := t.k + 1 } := by
  unfold stepT
  by_cases h0 : t.k = 0
  · rw [if_pos h0, h0]
  · rw [if_neg h0]
    by_cases h1 : t.k = 1
    · rw [if_pos h1, h1]
    · rw [if_neg h1, if_pos (by omega), show t.k = 2 from by omega]
theorem stepT_L {z : S6} {q : Nat} {t : Tu} {x : Hd} : (stepT z q t x).L = z.L := by unfold stepT; split <;> (try split) <;> (try split) <;> rfl
end Go.Proofs.YtahojhaeebmpoaaGreatDoor
/- The law's game, an act: an eviction. -/
namespace Go.Proofs.YtahojhaeebmpoaaGreatDoor
open Go Go.RowKit Go.Sort
set_option linter.unusedVariables false
end Go.Proofs.YtahojhaeebmpoaaGreatDoor
