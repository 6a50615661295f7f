/- Texts of this claim, packed: VPu, VPp, VRd, VEn. -/
import Derived.Test.YtnjecjcnkmgjmaaDoorPk10
import Derived.Test.YtnjecjcnkmgjmaaDoorPk24
import Derived.Test.YtnjecjcnkmgjmaaDoorPk08
import Derived.Deep.AppendLies
/- The stores that lay a value into its block, by the program and by the document's own answer; for any value, any base, where geo.rooms holds what its initialiser lays. -/
namespace Go.Proofs.YtnjecjcnkmgjmaaDoor
open Go.RowKit Go.Sort Go.Shelf
set_option linter.unusedVariables false
theorem ownK_below {w w' : World} {B C n sz : Nat} {e : TypeId} {v : Value} {xs : List Value} (h : w.ownsRow B e sz v n xs) (hb : Below C w w') (hC : ∀ g, v.ownBlock = some g → g < C) : w'.ownsRow B e sz v n xs := by
  refine ⟨h.1, ?_⟩
  rcases h.2 with h0 | ⟨g, cap, cur, rfl, hg, hh, hr⟩
  · exact .inl h0
  · exact .inr ⟨g, cap, cur, rfl, hg, (hb.block g (hC g rfl)).trans hh, hr⟩
theorem ownK_keep {w w' : World} {B n sz : Nat} {e : TypeId} {v : Value} {xs : List Value} (h : w.ownsRow B e sz v n xs) (hb : Below w.heap.size w w') : w'.ownsRow B e sz v n xs := ownK_below h hb fun g hg => (h.lt g hg).2
theorem ownK_mono {w : World} {B B' n sz : Nat} {e : TypeId} {v : Value} {xs : List Value} (h : w.ownsRow B e sz v n xs) (hb : B' ≤ B) : w.ownsRow B' e sz v n xs := by
  refine ⟨h.1, ?_⟩
  rcases h.2 with h0 | ⟨g, cap, cur, rfl, hg, hr⟩
  · exact .inl h0
  · exact .inr ⟨g, cap, cur, rfl, Nat.le_trans hb hg, hr⟩
/-- Words laid from a base on. -/
def putsTo (b : Nat) (ws : List Nat) (k : Nat) : List (Nat × Nat) := (List.range k).map fun i => (b + 8 * i, ws.getD i 0)
theorem putsTo_succ (b : Nat) (ws : List Nat) (k : Nat) : putsTo b ws (k + 1) = putsTo b ws k ++ [(b + 8 * k, ws.getD k 0)] := by
  unfold putsTo
  rw [List.range_succ, List.map_append]; rfl
theorem putsTo_length (b : Nat) (ws : List Nat) (k : Nat) : (putsTo b ws k).length = k := by simp [putsTo]
theorem putsTo_get {b : Nat} {ws : List Nat} {k i : Nat} (h : i < k) : (putsTo b ws k)[i]? = some (b + 8 * i, ws.getD i 0) := by
  unfold putsTo
  rw [List.getElem?_map, List.getElem?_range h]; rfl
theorem put_one (a x : Nat) : ∀ u ∈ [wv a, wv x], u.oneCell' = true := by
  intro u hu
  simp at hu
  rcases hu with rfl | rfl <;> rfl
set_option maxRecDepth 100000 in
set_option maxHeartbeats 1600000 in
theorem vlaid_any (ws : List Nat) (A : Option Addr) (n cap b : Nat) (w : World) (hn : ws.length = n) (h16 : n ≤ 1000) (h64 : b + 8 * n < 18446744073709551616) (hs : Sl w A (ws.map wv)) :
    Calls Tryd.prog 33 #[.int .u64 (b : Int), .slice A n cap] w fun e w' => e = .returned (.slice (some ⟨w.heap.size, 0, none⟩) n n) ∧ w'.ownsRow w.heap.size 35 2 (.slice (some ⟨w.heap.size, 0, none⟩) n n) n (flat (putsTo b ws n)) ∧ Below w.heap.size w w' := by
  obtain ⟨i0, hi, hz0, hz1, hz2⟩ := info_parts info35
  have m2 : i0.bytes * n ≤ 281474976710656 := by rw [hz2]; omega
  have m3 : n ≤ maxLen := by unfold maxLen; omega
  have HS := Lib.hid hs
  have HN := Lib.hid hn
  clear hs hn
  go_enter Tryd.func33, Tryd.ntmps33
  go_wp2_with (at_make; refine wpList_make_own _ rfl _ _ 28 rfl w.heap.size 35 i0 _ 2 Tryd.underlying28 hi hz0 hz1 .i64 .i64 _ n rfl rfl rfl m2 m3 (Nat.le_refl _) ?_; intro w1 hown1 hgrow1)
  have hb1 : Below w.heap.size w w1 := (Below.refl _ _).grown hgrow1 (Nat.le_refl _) (by intro k hk; cases hk)
  clear hgrow1
  go_loopw [5, 13] (fun v i wr => ∃ k : Nat, k ≤ n ∧ i = .int .i64 (k : Int) ∧ v = .slice (some ⟨w.heap.size, 0, none⟩) k n ∧
      wr.ownsRow w.heap.size 35 2 (.slice (some ⟨w.heap.size, 0, none⟩) k n) k (flat (putsTo b ws k)) ∧ Below w.heap.size w wr) (fun _ i _ => n - (intOf i).toNat)
  case atStart => exact ⟨0, by omega, rfl, rfl, hown1, hb1⟩
  case round =>
    rename World => wr
    obtain ⟨k, hk, rfl, rfl, hown, hb⟩ := hrel
    by_cases hlt : k < n
    · obtain ⟨a, hA, hc⟩ := (HS.out.below hb).at_ (i := k) (by rw [List.length_map, HN.out]; exact hlt)
      rw [List.getElem_map] at hc
      have hx : ws[k]'(by rw [HN.out]; exact hlt) = ws.getD k 0 := by rw [getD_at (by rw [HN.out]; exact hlt)]
      rw [hx] at hc
      subst hA
      obtain ⟨x, hxx⟩ : ∃ x, x = ws.getD k 0 := ⟨_, rfl⟩
      rw [← hxx] at hc
      unfold wv at hc
      have HX := Lib.hid hxx
      have HO := Lib.hid hown
      have HB := Lib.hid hb
      have HW := Lib.hid (vwordAt_any b k wr (by omega))
      obtain ⟨ad, had⟩ : ∃ ad, ad = b + 8 * k := ⟨_, rfl⟩
      rw [← had] at HW
      have HAD := Lib.hid had
      clear hx hxx hown hb had
      go_wp2_with fail
      refine HW.out.mono ?_
      rintro e w2 ⟨rfl, rfl⟩
      have hown2 : (wr.alloc (.cells #[wv ad, wv x] 35)).ownsRow w.heap.size 35 2 (.slice (some ⟨w.heap.size, 0, none⟩) k n) k (flat (putsTo b ws k)) := ownK_keep HO.out (alloc_below _ _)
      have hkn : k + 1 ≤ n := hlt
      go_wp2_with (at_builtin; refine wpList_append_fits _ rfl (.tmp 18) (.tmp 24) 28 rfl w.heap.size 35 i0 2 Tryd.underlying28 hi hz1 w.heap.size k n _ rfl hown2 ⟨wr.heap.size, 0, none⟩ 1 1 [wv ad, wv x] rfl rfl (World.news_of_block (cs := #[wv ad, wv x]) (t := 35) (fr := (0, 0)) (heap_alloc_new wr _)) (put_one ad x) hkn ?_; intro w3 hown3 hgrow)
      have hb3 : Below w.heap.size w w3 := (HB.out.alloc HB.out.size _).grown hgrow (by have := HB.out.size; simp; omega) (by intro q hq; cases hq; exact Nat.le_refl _)
      have hfl : flat (putsTo b ws k) ++ [wv ad, wv x] = flat (putsTo b ws (k + 1)) := by rw [putsTo_succ, flat_append, HAD.out, HX.out]; rfl
      rw [hfl] at hown3
      clear hgrow hown2 hfl
      go_roundw
      case rel => exact ⟨k + 1, by omega, by go_num, rfl, hown3, hb3⟩
      case measure => simp [intOf]; omega
    · have hkN : k = n := by omega
      subst hkN
      go_wp2
      go_ret
      exact ⟨rfl, hown, hb⟩
end Go.Proofs.YtnjecjcnkmgjmaaDoor
/- Puts of a value, by the program and by the document's own answer: the stores, or why there are none; for any value, any base, where geo.rooms holds what its initialiser lays. -/
namespace Go.Proofs.YtnjecjcnkmgjmaaDoor
open Go.RowKit Go.Sort Go.Shelf
set_option linter.unusedVariables false
/-- A value's stores. -/
def putsV (b : Nat) (s : ByteArray) : List (Nat × Nat) := putsTo b (packN s) (1 + (s.size + 7) / 8)
theorem clsN_zero {n : Nat} : clsN (n : Int) = 0 ↔ ¬ n ≤ 120 := by
  unfold clsN
  by_cases h : (0 : Int) ≤ n ∧ (n : Int) ≤ 56
  · rw [if_pos h]; omega
  · rw [if_neg h]
    by_cases h2 : (57 : Int) ≤ n ∧ (n : Int) ≤ 120
    · rw [if_pos h2]; omega
    · rw [if_neg h2]; omega
/-- What Puts answers. -/
def PutsP (b : Nat) (s : ByteArray) (w : World) (k : Int) (e : Ending) (w' : World) : Prop :=
  ∃ V, e = .returned (.tuple #[V, .int .i64 k]) ∧ (k ≠ 0 → V = .slice none 0 0) ∧ (k = 0 → w'.ownsRow w.heap.size 35 2 V (1 + (s.size + 7) / 8) (flat (putsV b s))) ∧ Below w.heap.size w w'
def putsK (b : Nat) (s : ByteArray) : Int := if ¬ s.size ≤ 120 then 10 else if wantA b (clsN s.size) < 0 then 2 else 0
theorem want_small {a c : Int} (h : 0 ≤ wantA a c) : 0 ≤ a ∧ a ≤ 66560 := by
  unfold wantA at h
  split at h
  · omega
  · rename_i hn
    have hx : blkA (slabA a) c (cntA a c) = a := Decidable.not_not.1 fun e => hn (.inr e)
    have := blkA_range (slabA a) c (cntA a c)
    omega
set_option maxRecDepth 100000 in
set_option maxHeartbeats 1600000 in
theorem vPuts_any (b : Nat) (s : ByteArray) (w : World) (R : Rms w) (hs : s.size ≤ maxLen) (hb : b < 18446744073709551616) :
    Calls Tryd.prog 10 #[.int .u64 (b : Int), .string s] w (PutsP b s w (putsK b s)) := by
  have HC := Lib.hid (vClass_any s w R hs)
  unfold putsK
  obtain ⟨c, hc⟩ : ∃ c, c = clsN (s.size : Int) := ⟨_, rfl⟩
  have hz : c = 0 ↔ ¬ s.size ≤ 120 := by rw [hc]; exact clsN_zero
  rw [← hc] at HC ⊢
  have HI := Lib.hid fun (w : World) (R : Rms w) => index_any (a := (b : Int)) (by omega) (by omega) c w R
  have HR := Lib.hid R
  clear R hc
  by_cases h : s.size ≤ 120
  · have hc0 : c ≠ 0 := fun e => hz.1 e h
    rw [if_neg (Decidable.not_not.2 h)]
    rw [if_neg hc0] at HC
    obtain ⟨z, hzz⟩ : ∃ z, z = wantA (b : Int) c := ⟨_, rfl⟩
    have hsm : 0 ≤ z → b ≤ 66560 := fun hz => by have := want_small (a := (b : Int)) (c := c) (by omega); omega
    rw [← hzz] at HI ⊢
    clear hzz hz hc0
    by_cases hz0 : z < 0
    · rw [if_pos hz0]
      have d : decide (0 ≤ z) = false := by simp; omega
      rw [d] at HI
      have mx : max z 0 = 0 := by omega
      rw [mx] at HI
      clear d mx hz0
      go_enter Tryd.func10, Tryd.ntmps10
      go_wp2_with fail
      refine HC.out.mono ?_
      rintro e w1 ⟨rfl, hg⟩
      have HG := Lib.hid hg
      clear hg HC
      go_wp2_with fail
      refine (HI.out _ (HR.out.gr HG.out)).mono ?_
      rintro e w2 ⟨rfl, hg⟩
      have HG2 := Lib.hid hg
      clear hg HI
      go_wp2
      go_ret2
      exact ⟨_, rfl, fun _ => rfl, fun h => absurd h (by decide), (HG.out.trans HG2.out).all⟩
    · rw [if_neg hz0]
      have d : decide (0 ≤ z) = true := by simp; omega
      rw [d] at HI
      obtain ⟨z', hz'⟩ : ∃ z', z' = max z 0 := ⟨_, rfl⟩
      rw [← hz'] at HI
      have hbs := hsm (by omega)
      have HP := Lib.hid fun (W : World) => pack_any s W (by omega)
      have HL := Lib.hid fun (A : Option Addr) (cap : Nat) (W : World) (hs : Sl W A ((packN s).map wv)) => vlaid_any (packN s) A (1 + (s.size + 7) / 8) cap b W (packN_length s) (by omega) (by omega) hs
      clear d hz0 hz' hsm hbs
      go_enter Tryd.func10, Tryd.ntmps10
      go_wp2_with fail
      refine HC.out.mono ?_
      rintro e w1 ⟨rfl, hg⟩
      have HG := Lib.hid hg
      clear hg HC
      go_wp2_with fail
      refine (HI.out _ (HR.out.gr HG.out)).mono ?_
      rintro e w2 ⟨rfl, hg⟩
      have HG2 := Lib.hid hg
      clear hg HI
      go_wp2_with fail
      refine (HP.out _).mono ?_
      rintro e w3 ⟨V, rfl, hown, hb3⟩
      obtain ⟨A, cap, rfl, _, _, hsl, _⟩ := own_sl hown
      have HL3 := Lib.hid (HL.out A cap _ hsl)
      have HB3 := Lib.hid hb3
      clear hown hb3 hsl HP HL
      go_wp2_with fail
      refine HL3.out.mono ?_
      rintro e w4 ⟨rfl, hown4, hb4⟩
      have HO := Lib.hid hown4
      have HB4 := Lib.hid hb4
      clear hown4 hb4 HL3
      go_wp2
      go_ret2
      have hbl := (HG.out.trans HG2.out).all
      have hs1 := hbl.size
      have hs3 := HB3.out.size
      exact ⟨_, rfl, fun h => absurd rfl h, fun _ => ownK_mono HO.out (by omega), Below.and (Below.and hbl HB3.out) HB4.out⟩
  · have hc0 : c = 0 := hz.2 h
    rw [if_pos h]
    subst hc0
    clear hz HI h
    go_enter Tryd.func10, Tryd.ntmps10
    go_wp2_with fail
    refine HC.out.mono ?_
    rintro e w1 ⟨rfl, hg⟩
    have HG := Lib.hid hg
    clear hg HC
    go_wp2
    go_ret2
    exact ⟨_, rfl, fun _ => rfl, fun h => absurd h (by decide), HG.out.all⟩
set_option maxRecDepth 100000 in
set_option maxHeartbeats 1600000 in
theorem r12Puts_any (b : Nat) (s : ByteArray) (w : World) (hs : s.size ≤ maxLen) (hb : b < 18446744073709551616) :
    Calls Tryd.prog 11 #[.int .u64 (b : Int), .string s] w (PutsP b s w (putsK b s)) := by
  unfold putsK
  have HC := Lib.hid (refClass_any (s.size : Int) w)
  obtain ⟨i0, hi, hz0, hz1, hz2⟩ := info_parts info35
  obtain ⟨c, hc⟩ : ∃ c, c = clsN (s.size : Int) := ⟨_, rfl⟩
  rw [← hc] at HC ⊢
  have HI := Lib.hid fun (w : World) => refIndex_any (b : Int) c w
  clear hc
  unfold maxLen at hs
  by_cases h : s.size ≤ 120
  · rw [if_neg (Decidable.not_not.2 h)]
    have d0 : decide ((120 : Int) < (s.size : Int)) = false := by simp; omega
    have d1 : decide (120 < s.size) = false := by simp; omega
    obtain ⟨z, hzz⟩ : ∃ z, z = wantA (b : Int) c := ⟨_, rfl⟩
    have hsm : 0 ≤ z → b ≤ 66560 := fun hz => by have := want_small (a := (b : Int)) (c := c) (by omega); omega
    rw [← hzz] at HI ⊢
    clear hzz
    by_cases hz0' : z < 0
    · rw [if_pos hz0']
      go_enter Tryd.func11, Tryd.ntmps11
      go_wp2_with fail
      refine HC.out.mono ?_
      rintro e w1 ⟨rfl, rfl⟩
      go_wp2_with fail
      refine (HI.out _).mono ?_
      rintro e w2 ⟨rfl, rfl⟩
      go_wp2
      go_ret2
      exact ⟨_, rfl, fun _ => rfl, fun h => absurd h (by decide), Below.refl _ _⟩
    · rw [if_neg hz0']
      have hbs := hsm (by omega)
      have hw120 := h
      have HP := Lib.hid fun (W : World) => refPack_any s W (by omega)
      have hpl := packN_length s
      obtain ⟨n, hn⟩ : ∃ n, n = 1 + (s.size + 7) / 8 := ⟨_, rfl⟩
      have hn17 : n ≤ 17 := by omega
      rw [← hn] at HP hpl
      have HN := Lib.hid hn
      have HPL := Lib.hid hpl
      clear hsm hpl hn hw120
      go_enter Tryd.func11, Tryd.ntmps11
      go_wp2_with fail
      refine HC.out.mono ?_
      rintro e w1 ⟨rfl, rfl⟩
      go_wp2_with fail
      refine (HI.out _).mono ?_
      rintro e w2 ⟨rfl, rfl⟩
      go_wp2_with fail
      refine (HP.out _).mono ?_
      rintro e w3 ⟨V, rfl, hown, hb3⟩
      obtain ⟨A, cap, rfl, hlc, hcm, hsl, _⟩ := own_sl hown
      have HSL := Lib.hid hsl
      have HB3 := Lib.hid hb3
      clear hown hb3 hsl HP
      go_wp2
      go_loopw [7, 8] (fun v i wr => ∃ k : Nat, k ≤ n ∧ i = .int .i64 (k : Int) ∧ wr.ownsRow w3.heap.size 35 2 v k (flat (putsTo b (packN s) k)) ∧ Below w3.heap.size w3 wr) (fun _ i _ => n - (intOf i).toNat)
      case atStart => exact ⟨0, by omega, rfl, World.ownsRow_nil _ _ _ _, Below.refl _ _⟩
      case round =>
        rename World => wr
        obtain ⟨k, hk, rfl, hown, hb4⟩ := hrel
        by_cases hlt : k < n
        · obtain ⟨a, hA, hcl⟩ := (HSL.out.below hb4).at_ (i := k) (by rw [List.length_map, HPL.out]; exact hlt)
          rw [List.getElem_map] at hcl
          have hx : (packN s)[k]'(by rw [HPL.out]; exact hlt) = (packN s).getD k 0 := by rw [getD_at (by rw [HPL.out]; exact hlt)]
          rw [hx] at hcl
          subst hA
          obtain ⟨x, hxx⟩ : ∃ x, x = (packN s).getD k 0 := ⟨_, rfl⟩
          rw [← hxx] at hcl
          unfold wv at hcl
          have HX := Lib.hid hxx
          have HO := Lib.hid hown
          have HB := Lib.hid hb4
          have h3 := HB3.out.size
          have h4 := hb4.size
          have hown2 : (wr.alloc (.cells #[wv (b + 8 * k), wv x] 35)).ownsRow w3.heap.size 35 2 _ k (flat (putsTo b (packN s) k)) := ownK_keep hown (alloc_below _ _)
          have h63 : k + 1 ≤ maxLen := by unfold maxLen; omega
          have hby : (k + 1) * 16 ≤ 140737488355328 := by omega
          have hbs : w3.heap.size ≤ (wr.alloc (.cells #[wv (b + 8 * k), wv x] 35)).heap.size := by simp; omega
          have e1 : (b : Int) + 8 * (k : Int) ≤ 18446744073709551615 := by omega
          clear hx hxx hown hb4
          go_wp2_with (at_builtin; refine wpList_append_own _ rfl (.tmp 26) (.tmp 37) 28 rfl w3.heap.size 35 i0 (.agg #[.int .u64 0, .int .u64 0]) 2 16 Tryd.underlying28 hi hz0 hz1 hz2 rfl (by decide) _ k _ rfl hown2 ⟨wr.heap.size, 0, none⟩ 1 1 [wv (b + 8 * k), wv x] rfl rfl (World.news_of_block (cs := #[wv (b + 8 * k), wv x]) (t := 35) (fr := (0, 0)) (heap_alloc_new wr _)) (put_one _ x) h63 hby hbs ?_; intro v4 w4 hown4 hgrow hnil)
          have hb5 : Below w3.heap.size w3 w4 := (HB.out.alloc HB.out.size _).grown hgrow (by have := HB.out.size; simp; omega) (fun q hq => (hown2.lt q hq).1)
          have hfl : flat (putsTo b (packN s) k) ++ [wv (b + 8 * k), wv x] = flat (putsTo b (packN s) (k + 1)) := by rw [putsTo_succ, flat_append, HX.out]; rfl
          rw [hfl] at hown4
          clear hgrow hown2 hfl hnil
          go_roundw
          case rel => exact ⟨k + 1, by omega, by go_num, hown4, hb5⟩
          case measure => simp [intOf]; omega
        · have hkN : k = n := by omega
          subst hkN
          go_wp2
          go_ret2
          exact ⟨_, rfl, fun h => absurd rfl h, fun _ => by rw [← HN.out]; unfold putsV; rw [← HN.out]; exact ownK_mono hown HB3.out.size, Below.and HB3.out hb4⟩
  · rw [if_pos h]
    have d0 : decide ((120 : Int) < (s.size : Int)) = true := by simp; omega
    have d1 : decide (120 < s.size) = true := by simp; omega
    go_enter Tryd.func11, Tryd.ntmps11
    go_wp2
    go_ret2
    exact ⟨_, rfl, fun _ => rfl, fun h => absurd h (by decide), Below.refl _ _⟩
end Go.Proofs.YtnjecjcnkmgjmaaDoor
/- A read of a value in memory: where it lies; one word loaded, or refused; for reads that lie apart from their memory. -/
namespace Go.Proofs.YtnjecjcnkmgjmaaDoor
open Go.RowKit Go.Sort Go.Shelf
set_option linter.unusedVariables false

/-- What is to be done next, by its function. -/
def vF (f rg : Nat) : Value := .func (.func f) #[.pointer (some ⟨rg, 0, none⟩)] #[]
/-- A read's cells. -/
def rdC (p : Option Addr) (b : Int) (F V : Value) (S : ByteArray) (d : Bool) (k : Int) : Array Value := #[.pointer p, .int .u64 b, F, V, .string S, .bool d, .int .i64 k]
/-- Where it lies; all that it takes lies from B on. -/
structure RdAt (w : World) (B g b : Nat) (p : Option Addr) (f : Nat) (ws : List Nat) (S : ByteArray) (d : Bool) (k : Int) (V : Value) : Prop where
  row : Row w g 63 (rdC p b (vF f g) V S d k)
  own : w.ownsRow B 22 1 V ws.length (ws.map wv)
  gB : B ≤ g
/-- A memory that lies below. -/
def Sep (y : Lay) (B : Nat) : Prop := ∀ q, y.fp q → q < B
theorem ownS_below {w w' : World} {B n : Nat} {e : TypeId} {v : Value} {xs : List Value} (h : w.ownsRow B e 1 v n xs) (hb : ∀ g, v.ownBlock = some g → w'.heap[g]? = w.heap[g]?) : w'.ownsRow B e 1 v n xs := by
  refine ⟨h.1, ?_⟩
  rcases h.2 with h0 | ⟨g, cap, cur, rfl, hg, hh, hr⟩
  · exact .inl h0
  · exact .inr ⟨g, cap, cur, rfl, hg, (hb g rfl).trans hh, hr⟩
section
variable {w w' : World} {B g b : Nat} {p : Option Addr} {f : Nat} {ws : List Nat} {S : ByteArray} {d : Bool} {k : Int} {V : Value}
theorem RdAt.but {fp : Nat → Prop} (h : RdAt w B g b p f ws S d k V) (hb : But w w' fp) (hg : ∀ q, fp q → q < B) : RdAt w' B g b p f ws S d k V :=
  ⟨hb.row h.row (fun e => by have := hg _ e; have := h.gB; omega), ownS_below h.own fun q hq => hb.block q (h.own.lt q hq).2 (fun e => by have := hg _ e; have := (h.own.lt q hq).1; omega), h.gB⟩
theorem RdAt.below (h : RdAt w B g b p f ws S d k V) (hb : Below w.heap.size w w') : RdAt w' B g b p f ws S d k V :=
  ⟨h.row.below hb h.row.lt, own_keep h.own hb, h.gB⟩
theorem RdAt.val (h : RdAt w B g b p f ws S d k V) : ∃ A cap, V = .slice A ws.length cap ∧ ws.length ≤ cap ∧ cap ≤ maxLen ∧ Sl w A (ws.map wv) := by
  obtain ⟨A, cap, e, h1, h2, h3, _⟩ := own_sl h.own
  exact ⟨A, cap, e, h1, h2, h3⟩
theorem RdAt.ne (h : RdAt w B g b p f ws S d k V) : some g ≠ V.ownBlock := own_ne h.own h.row (by decide)
theorem RdAt.size (h : RdAt w B g b p f ws S d k V) : B ≤ w.heap.size := by have := h.row.lt; have := h.gB; omega
end
/-- What turns: the memory, and what lies from B on. -/
def rdFp (y : Lay) (B q : Nat) : Prop := y.fp q ∨ B ≤ q
/-- What a word's loading does. -/
def LdPost (w : World) (y : Lay) (s : St) (B g b f : Nat) (ws : List Nat) (S : ByteArray) (d : Bool) (k : Int) (x : Nat) (w' : World) : Prop :=
  ∃ V', RdAt w' B g b (some ⟨y.g, 0, none⟩) f (ws ++ [x]) S d k V' ∧ MemAt w' y { s with ld := s.ld + 1 } ∧ But w w' (rdFp y B)
set_option maxRecDepth 100000 in
set_option maxHeartbeats 1600000 in
theorem vload_ok {w : World} {y : Lay} {s : St} (h : MemAt w y s) (ok : s.Ok) {B g b f : Nat} {ws : List Nat} {S : ByteArray} {d : Bool} {k : Int} {V : Value}
    (hr : RdAt w B g b (some ⟨y.g, 0, none⟩) f ws S d k V) (sep : Sep y B) (h8 : (b + 8 * ws.length) % 8 = 0) (ha : b + 8 * ws.length < 64 * s.nl) (h16 : ws.length < 16) :
    Calls Tryd.prog 60 #[.pointer (some ⟨g, 0, none⟩)] w fun e w' => e = .returned (.int .i64 0) ∧ LdPost w y s B g b f ws S d k (s.view.getD ((b + 8 * ws.length) / 8) 0) w' := by
  have mixed : Tryd.prog.follows .mixedOrders = true := by kernel_rfl
  obtain ⟨i0, hi, hz0, hz1, hz2⟩ := info_parts info22
  obtain ⟨A, cap, rfl, hlc, hcm, hsl⟩ := hr.val
  have hmost := h.most
  have HWA := Lib.hid fun (q : LowBy w) => Calls.low_of_same (p := q) (vwordAt_any b ws.length q.W (by omega))
  have HL := Lib.hid fun (q : LowBy w) => load_okY (h.below q.low) ok (b + 8 * ws.length) h8 ha
  have HRB := Lib.hid fun (q : LowBy w) => hr.below q.low
  have c0 := hr.row.cell 0
  have c1 := hr.row.cell 1
  have c3 := hr.row.cell 3
  simp only [rdC, List.getElem?_toArray, List.getElem?_cons_succ, List.getElem?_cons_zero] at c0 c1 c3
  have ca := fun p : LowBy w => p.cell c0
  have cb := fun p : LowBy w => p.cell c1
  have cc := fun p : LowBy w => p.cell c3
  obtain ⟨x, hx⟩ : ∃ x, x = s.view.getD ((b + 8 * ws.length) / 8) 0 := ⟨_, rfl⟩
  rw [← hx] at HL ⊢
  obtain ⟨a, haa⟩ : ∃ a, a = b + 8 * ws.length := ⟨_, rfl⟩
  rw [← haa] at HL HWA
  have HSEP := Lib.hid sep
  obtain ⟨m, hm⟩ : ∃ m, m = ws.length := ⟨_, rfl⟩
  have HM := Lib.hid hm
  rw [← hm] at HWA HRB cc hlc h16
  have HMEM := Lib.hid h
  clear hr h sep c0 c1 c3 hsl hx haa hm h8 ha
  go_enter Tryd.func60, Tryd.ntmps60
  go_wp2_with fail
  refine wp_region_quiet_mid (C := fun w' => ∃ p : LowBy w, w' = p.W) 14 (firstM 14 20) (by assumption) (by kernel_rfl) ⟨⟨w.drew, (Below.refl _ w).drew⟩, rfl⟩ ?_
  simp only [List.take_succ_cons, List.take_zero]
  repeat (go_big_quiet_step ((go_at_call 58; with_reducible exact HWA.out _)))
  refine wpQuiet_nil ?_
  intro _ hw'
  obtain ⟨q, hw''⟩ := hw'
  subst hw''
  have HR := Lib.hid (HRB.out q)
  have HQ := Lib.hid q.low
  have HL2 := Lib.hid (HL.out q)
  clear ca cb cc HWA HRB HL
  change wpAny _ _ _ _ 6 _ _ _
  refine wpAny_ready (rs := [14]) (by kernel_rfl) (by simp) ?_
  refine AllReady.cons rfl (fun K hK => ?_) AllReady.nil
  go_simp
  refine HL2.out.mono ?_
  rintro e w2 ⟨rfl, hm2, ht2⟩
  refine hK _ _ ?_
  clear hK K
  refine wpAny_take (i := 15) (oi := ⟨some 5, _, _, _, _, _⟩) (v := .tuple #[.int .u64 (x : Int), .int .i64 0]) rfl (by kernel_rfl) (by kernel_rfl) (by kernel_rfl) (fun _ _ _ h => h) (Or.inl ⟨by kernel_rfl, by intro w; go_simp⟩) ?_
  simp only [Act.put, List.setIfInBounds_toArray, List.set_cons_zero, List.set_cons_succ]
  refine wpAny_take (i := 16) (oi := ⟨some 21, _, _, _, _, _⟩) (v := .int .u64 (x : Int)) rfl (by kernel_rfl) (by kernel_rfl) (by kernel_rfl) (fun _ _ _ h => h) (Or.inl ⟨by kernel_rfl, by intro w; go_simp⟩) ?_
  simp only [Act.put, List.setIfInBounds_toArray, List.set_cons_zero, List.set_cons_succ]
  refine wpAny_take (i := 17) (oi := ⟨some 22, _, _, _, _, _⟩) (v := .int .i64 0) rfl (by kernel_rfl) (by kernel_rfl) (by kernel_rfl) (fun _ _ _ h => h) (Or.inl ⟨by kernel_rfl, by intro w; go_simp⟩) ?_
  simp only [Act.put, List.setIfInBounds_toArray, List.set_cons_zero, List.set_cons_succ]
  refine wpAny_take (i := 18) (oi := ⟨some 3, _, _, _, _, _⟩) (v := .int .u64 (x : Int)) rfl (by kernel_rfl) (by kernel_rfl) (by kernel_rfl) (fun _ _ _ h => h) (Or.inl ⟨by kernel_rfl, by intro w; go_simp⟩) ?_
  simp only [Act.put, List.setIfInBounds_toArray, List.set_cons_zero, List.set_cons_succ]
  refine wpAny_take (i := 19) (oi := ⟨some 4, _, _, _, _, _⟩) (v := .int .i64 0) rfl (by kernel_rfl) (by kernel_rfl) (by kernel_rfl) (fun _ _ _ h => h) (Or.inl ⟨by kernel_rfl, by intro w; go_simp⟩) ?_
  simp only [Act.put, List.setIfInBounds_toArray, List.set_cons_zero, List.set_cons_succ]
  refine wpAny_done (by kernel_rfl) ?_ _
  have hr2 : RdAt w2 B g b (some ⟨y.g, 0, none⟩) f ws S d k (.slice A m cap) := HR.out.but ht2.but HSEP.out
  have c3 := hr2.row.cell 3
  have f3 := hr2.row.free 3
  simp only [rdC, List.getElem?_toArray, List.getElem?_cons_succ, List.getElem?_cons_zero] at c3
  have hown := hr2.own.alloc (.cells #[wv x] 22)
  rw [← HM.out] at hown
  have HR2 := Lib.hid hr2
  have HM2 := Lib.hid hm2
  have HT2 := Lib.hid ht2
  clear hr2 hm2 ht2 HL2 HR
  have h63 : m + 1 ≤ maxLen := by unfold maxLen; omega
  have hby : (m + 1) * 8 ≤ 140737488355328 := by omega
  have hrow := HR2.out.row.alloc (.cells #[wv x] 22)
  have HROW := Lib.hid hrow
  have HNE := Lib.hid HR2.out.ne
  have HBZ := Lib.hid (show B ≤ (w2.alloc (.cells #[wv x] 22)).heap.size by have := HR2.out.size; simp; omega)
  clear hrow
  go_wp2_with (at_builtin; refine wpList_append_own _ rfl (.tmp 29) (.tmp 31) 53 rfl B 22 i0 (.int .u64 0) 1 8 Tryd.underlying53 hi hz0 hz1 hz2 rfl (by decide) (.slice A m cap) m _ rfl hown ⟨w2.heap.size, 0, none⟩ 1 1 [wv x] rfl rfl (cell_one_new _ _ _) (wv_ones [x]) h63 hby HBZ.out ?_; intro V4 w4 hown4 hgrow hnil; have hr4 := HROW.out.grown hgrow HNE.out; have f3' := hr4.free 3; have c3' := hr4.cell 3; simp only [rdC, List.getElem?_toArray, List.getElem?_cons_succ, List.getElem?_cons_zero] at c3'; have HR4 := Lib.hid hr4; have HO4 := Lib.hid hown4; have HG4 := Lib.hid hgrow; obtain ⟨A4, cap4, rfl, _, _, _, _⟩ := own_sl hown4; clear hnil hr4 hown4 hgrow)
  go_ret
  have hsz := HT2.out.size
  have hqs := HQ.out.size
  have hB := HR2.out.size
  have hb2 : But w w2 (rdFp y B) := (But.of_below HQ.out _).trans (HT2.out.but.mono fun _ h => .inl h) (fun _ h => .inl h)
  have hg : But w2 w4 (rdFp y B) := ⟨HG4.out.os, HG4.out.tape, HG4.out.output, Nat.le_trans (by simp) HG4.out.size, fun q hq hn => (HG4.out.block q (by simp; omega) (fun e => hn (.inr (HR2.out.own.lt q e.symm).1))).trans (Below.heap_alloc w2 _ q hq)⟩
  have hb4 : But w (w4.setCell ⟨g, 3, none⟩ (.slice A4 (m + 1) cap4)) (rdFp y B) := (hb2.trans hg (fun _ h => .inl h)).set (p := ⟨g, 3, none⟩) (.inr HR2.out.gB) _
  refine ⟨rfl, .slice A4 (m + 1) cap4, ⟨?_, ?_, HR2.out.gB⟩, ?_, hb4⟩
  · exact HR4.out.set 3 _
  · rw [List.length_append, List.length_singleton, ← HM.out, List.map_append]
    exact own_set HO4.out (p := ⟨g, 3, none⟩) (own_ne HO4.out HR4.out (by decide)) _
  · refine HM2.out.same fun q hq => ?_
    have hlt := HM2.out.lt q hq
    have hqB := HSEP.out q hq
    have hgB := HR2.out.gB
    exact (heap_setCell_other _ _ _ _ (by simp; omega)).trans ((HG4.out.block q (by simp; omega) (fun e => by have := (HR2.out.own.lt q e.symm).1; omega)).trans (Below.heap_alloc w2 _ q hlt))
end Go.Proofs.YtnjecjcnkmgjmaaDoor
/- A read's load that is refused; its end; its first word, and its others: what each does, for reads that lie apart from their memory. -/
namespace Go.Proofs.YtnjecjcnkmgjmaaDoor
open Go.RowKit Go.Sort Go.Shelf
set_option linter.unusedVariables false
set_option maxRecDepth 100000 in
set_option maxHeartbeats 1600000 in
theorem vload_bad {w : World} {B g b f : Nat} {p : Option Addr} {ws : List Nat} {S : ByteArray} {d : Bool} {k kk : Int} {V : Value}
    (hr : RdAt w B g b p f ws S d k V) (hk : kk ≠ 0) (h64 : b + 8 * ws.length < 18446744073709551616)
    (HL0 : ∀ q : LowBy w, Calls Tryd.prog 73 #[.pointer p, .int .u64 ((b + 8 * ws.length : Nat) : Int)] q.W fun e w' => e = .returned (.tuple #[.int .u64 0, .int .i64 kk]) ∧ q.W = w') :
    Calls Tryd.prog 60 #[.pointer (some ⟨g, 0, none⟩)] w fun e w' => e = .returned (.int .i64 kk) ∧ Below w.heap.size w w' := by
  have mixed : Tryd.prog.follows .mixedOrders = true := by kernel_rfl
  obtain ⟨A, cap, rfl, hlc, hcm, hsl⟩ := hr.val
  have HWA := Lib.hid fun (q : LowBy w) => Calls.low_of_same (p := q) (vwordAt_any b ws.length q.W h64)
  have HL := Lib.hid HL0
  have c0 := hr.row.cell 0
  have c1 := hr.row.cell 1
  have c3 := hr.row.cell 3
  simp only [rdC, List.getElem?_toArray, List.getElem?_cons_succ, List.getElem?_cons_zero] at c0 c1 c3
  have ca := fun p : LowBy w => p.cell c0
  have cb := fun p : LowBy w => p.cell c1
  have cc := fun p : LowBy w => p.cell c3
  obtain ⟨a, haa⟩ : ∃ a, a = b + 8 * ws.length := ⟨_, rfl⟩
  rw [← haa] at HL HWA
  obtain ⟨m, hm⟩ : ∃ m, m = ws.length := ⟨_, rfl⟩
  rw [← hm] at HWA cc hlc
  have k0 : (kk == 0) = false := by rw [beq_eq_false_iff_ne]; exact hk
  clear hr c0 c1 c3 hsl haa hm HL0 hk h64
  go_enter Tryd.func60, Tryd.ntmps60
  go_wp2_with fail
  refine wp_region_quiet_mid (C := fun w' => ∃ p : LowBy w, w' = p.W) 14 (firstM 14 20) (by assumption) (by kernel_rfl) ⟨⟨w.drew, (Below.refl _ w).drew⟩, rfl⟩ ?_
  simp only [List.take_succ_cons, List.take_zero]
  repeat (go_big_quiet_step ((go_at_call 58; with_reducible exact HWA.out _)))
  refine wpQuiet_nil ?_
  intro _ hw'
  obtain ⟨q, hw''⟩ := hw'
  subst hw''
  have HQ := Lib.hid q.low
  have HL2 := Lib.hid (HL.out q)
  clear ca cb cc HWA HL
  change wpAny _ _ _ _ 6 _ _ _
  refine wpAny_ready (rs := [14]) (by kernel_rfl) (by simp) ?_
  refine AllReady.cons rfl (fun K hK => ?_) AllReady.nil
  go_simp
  refine HL2.out.mono ?_
  rintro e w2 ⟨rfl, rfl⟩
  refine hK _ _ ?_
  clear hK K
  refine wpAny_take (i := 15) (oi := ⟨some 5, _, _, _, _, _⟩) (v := .tuple #[.int .u64 0, .int .i64 kk]) rfl (by kernel_rfl) (by kernel_rfl) (by kernel_rfl) (fun _ _ _ h => h) (Or.inl ⟨by kernel_rfl, by intro w; go_simp⟩) ?_
  simp only [Act.put, List.setIfInBounds_toArray, List.set_cons_zero, List.set_cons_succ]
  refine wpAny_take (i := 16) (oi := ⟨some 21, _, _, _, _, _⟩) (v := .int .u64 0) rfl (by kernel_rfl) (by kernel_rfl) (by kernel_rfl) (fun _ _ _ h => h) (Or.inl ⟨by kernel_rfl, by intro w; go_simp⟩) ?_
  simp only [Act.put, List.setIfInBounds_toArray, List.set_cons_zero, List.set_cons_succ]
  refine wpAny_take (i := 17) (oi := ⟨some 22, _, _, _, _, _⟩) (v := .int .i64 kk) rfl (by kernel_rfl) (by kernel_rfl) (by kernel_rfl) (fun _ _ _ h => h) (Or.inl ⟨by kernel_rfl, by intro w; go_simp⟩) ?_
  simp only [Act.put, List.setIfInBounds_toArray, List.set_cons_zero, List.set_cons_succ]
  refine wpAny_take (i := 18) (oi := ⟨some 3, _, _, _, _, _⟩) (v := .int .u64 0) rfl (by kernel_rfl) (by kernel_rfl) (by kernel_rfl) (fun _ _ _ h => h) (Or.inl ⟨by kernel_rfl, by intro w; go_simp⟩) ?_
  simp only [Act.put, List.setIfInBounds_toArray, List.set_cons_zero, List.set_cons_succ]
  refine wpAny_take (i := 19) (oi := ⟨some 4, _, _, _, _, _⟩) (v := .int .i64 kk) rfl (by kernel_rfl) (by kernel_rfl) (by kernel_rfl) (fun _ _ _ h => h) (Or.inl ⟨by kernel_rfl, by intro w; go_simp⟩) ?_
  simp only [Act.put, List.setIfInBounds_toArray, List.set_cons_zero, List.set_cons_succ]
  refine wpAny_done (by kernel_rfl) ?_ _
  go_wp2
  go_ret
  exact ⟨rfl, HQ.out⟩

set_option maxRecDepth 100000 in
set_option maxHeartbeats 1600000 in
theorem vend_more {w : World} {B g b f n : Nat} {p : Option Addr} {t : List Nat} {S : ByteArray} {d : Bool} {k : Int} {V : Value} (hr : RdAt w B g b p f (n :: t) S d k V) (hlt : t.length + 1 < cnt n) :
    Calls Tryd.prog 62 #[.pointer (some ⟨g, 0, none⟩)] w fun e w' => e = .returned (.int .i64 0) ∧ Below w.heap.size w w' := by
  have mixed : Tryd.prog.follows .mixedOrders = true := by kernel_rfl
  obtain ⟨A, cap, rfl, hlc, hcm, hsl⟩ := hr.val
  obtain ⟨a, rfl, ha⟩ := hsl.at_ (i := 0) (by simp)
  simp only [List.map_cons, List.getElem_cons_zero, add_zero'] at ha
  unfold wv at ha
  have HC := Lib.hid fun (q : LowBy w) => Calls.low_of_same (p := q) (vcount_any n q.W)
  have c3 := hr.row.cell 3
  simp only [rdC, List.getElem?_toArray, List.getElem?_cons_succ, List.getElem?_cons_zero] at c3
  have ca := fun p : LowBy w => p.cell c3
  have cb := fun p : LowBy w => p.cell ha
  obtain ⟨m, hm⟩ : ∃ m, m = (n :: t).length := ⟨_, rfl⟩
  rw [← hm] at ca hlc
  have hc16 := cnt_le n
  obtain ⟨c, hc⟩ : ∃ c, c = cnt n := ⟨_, rfl⟩
  rw [← hc] at HC hlt hc16
  have hmc : (m : Int) < (c : Int) := by rw [hm]; simp; omega
  have hmc2 : m < c := by omega
  have hm0 : 0 < m := by rw [hm]; simp
  clear hr c3 hsl ha hlt hm hc
  go_enter Tryd.func62, Tryd.ntmps62
  go_wp2_with fail
  refine wp_region_quiet_low (by assumption) (by kernel_rfl) ?_
  repeat (go_big_quiet_step ((go_at_call 46; with_reducible exact HC.out _)))
  refine wpQuiet_nil ?_
  intro _ hw'
  obtain ⟨q, hw''⟩ := hw'
  subst hw''
  have HQ := Lib.hid q.low
  clear ca cb HC
  go_wp2
  go_ret
  exact ⟨rfl, HQ.out⟩
/-- Behind what turned of a read's cells alone. -/
theorem RdAt.set {w : World} {B g b : Nat} {p : Option Addr} {f : Nat} {ws : List Nat} {S : ByteArray} {d : Bool} {k : Int} {V : Value} (h : RdAt w B g b p f ws S d k V) (i : Nat) (u : Value) {p' : Option Addr} {f' b' : Nat} {S' : ByteArray} {d' : Bool} {k' : Int}
    (he : (rdC p b (vF f g) V S d k).setIfInBounds i u = rdC p' b' (vF f' g) V S' d' k') : RdAt (w.setCell ⟨g, i, none⟩ u) B g b' p' f' ws S' d' k' V :=
  ⟨by rw [← he]; exact h.row.set i u, own_set h.own (p := ⟨g, i, none⟩) h.ne u, h.gB⟩
set_option maxRecDepth 100000 in
set_option maxHeartbeats 1600000 in
theorem vend_done {w : World} {B g b f n : Nat} {p : Option Addr} {t : List Nat} {S : ByteArray} {d : Bool} {k : Int} {V : Value} (hr : RdAt w B g b p f (n :: t) S d k V) (hlt : t.length + 1 = cnt n) (hn : n ≤ 120) (hwd : Wrds t) :
    Calls Tryd.prog 62 #[.pointer (some ⟨g, 0, none⟩)] w fun e w' => e = .returned (.int .i64 (rdK n t)) ∧ RdAt w' B g b p f (n :: t) (rdS n t) true k V ∧ But w w' (fun q => q = g) := by
  have mixed : Tryd.prog.follows .mixedOrders = true := by kernel_rfl
  obtain ⟨A, cap, rfl, hlc, hcm, hsl⟩ := hr.val
  obtain ⟨a, rfl, ha⟩ := hsl.at_ (i := 0) (by simp)
  simp only [List.map_cons, List.getElem_cons_zero, add_zero'] at ha
  unfold wv at ha
  have HC := Lib.hid fun (q : LowBy w) => Calls.low_of_same (p := q) (vcount_any n q.W)
  have c3 := hr.row.cell 3
  simp only [rdC, List.getElem?_toArray, List.getElem?_cons_succ, List.getElem?_cons_zero] at c3
  have ca := fun p : LowBy w => p.cell c3
  have cb := fun p : LowBy w => p.cell ha
  obtain ⟨m, hm⟩ : ∃ m, m = (n :: t).length := ⟨_, rfl⟩
  have HM := Lib.hid hm
  have hc16 := cnt_le n
  have HT := Lib.hid fun (W : World) (h : Sl W (some a) ((n :: t ++ []).map wv)) => vtext_any n t [] a m cap W (by rw [hm]; simp) hn hlt (by rw [hm]; exact hlc) hcm hwd h
  rw [← hm] at ca hlc
  have HR := Lib.hid fun (q : LowBy w) => hr.below q.low
  obtain ⟨c, hc⟩ : ∃ c, c = cnt n := ⟨_, rfl⟩
  rw [← hc] at HC hlt hc16
  have hmc : ¬ (m : Int) < (c : Int) := by rw [hm]; simp; omega
  have hmc2 : ¬ m < c := by omega
  have hm0 : 0 < m := by rw [hm]; simp
  obtain ⟨S2, hS⟩ : ∃ S2, S2 = rdS n t := ⟨_, rfl⟩
  obtain ⟨K2, hK⟩ : ∃ K2, K2 = rdK n t := ⟨_, rfl⟩
  rw [← hS, ← hK] at HT ⊢
  rw [← hm] at HR
  clear hr c3 hsl ha hlt hm hc hS hK hcm hwd
  go_enter Tryd.func62, Tryd.ntmps62
  go_wp2_with fail
  refine wp_region_quiet_low (by assumption) (by kernel_rfl) ?_
  repeat (go_big_quiet_step ((go_at_call 46; with_reducible exact HC.out _)))
  refine wpQuiet_nil ?_
  intro _ hw'
  obtain ⟨q, hw''⟩ := hw'
  subst hw''
  have hr := HR.out q
  have HQ := Lib.hid q.low
  clear ca cb HC HR
  have c3 := hr.row.cell 3
  have c4 := hr.row.cell 4
  have c5 := hr.row.cell 5
  have f5 := hr.row.free 5
  have f4 := hr.row.free 4
  simp only [rdC, List.getElem?_toArray, List.getElem?_cons_succ, List.getElem?_cons_zero] at c3 c4 c5
  have hr1 := hr.set 5 (.bool true) (p' := p) (f' := f) (b' := b) (S' := S) (d' := true) (k' := k) rfl
  obtain ⟨_, _, e0, _, _, hsl1⟩ := hr1.val
  rw [← HM.out] at e0
  cases e0
  have HT1 := Lib.hid (HT.out _ (by rw [List.append_nil]; exact hsl1))
  have HR1 := Lib.hid hr1
  have HR := Lib.hid hr
  clear hr1 hsl1 hr HT
  go_wp2_with fail
  refine HT1.out.mono ?_
  rintro e w2 ⟨rfl, hb⟩
  have hr2 := HR1.out.below hb
  have c4' := hr2.row.cell 4
  have f4' := hr2.row.free 4
  simp only [rdC, List.getElem?_toArray, List.getElem?_cons_succ, List.getElem?_cons_zero] at c4'
  have HR2 := Lib.hid hr2
  have HB := Lib.hid hb
  clear hr2 hb HT1 c3 c4 c5 f5 f4
  go_wp2
  go_ret
  refine ⟨rfl, ?_, ?_⟩
  · have h := HR2.out.set 4 (.string S2) (p' := p) (f' := f) (b' := b) (S' := S2) (d' := true) (k' := k) rfl
    rw [HM.out] at h
    exact h
  · exact (((But.of_below HQ.out (fun q => q = g)).set (p := ⟨g, 5, none⟩) rfl _).trans (But.of_below HB.out (fun q => q = g)) (fun _ h => .inl h)).set (p := ⟨g, 4, none⟩) rfl _
end Go.Proofs.YtnjecjcnkmgjmaaDoor
