/- Texts of this claim, packed: 7Two, 7LPlays. -/
import Derived.Test.YtgclbeagifoifaaPc39
import Derived.Test.YtgclbeagifoifaaPc42
import Derived.Test.YtgclbeagifoifaaPc45
import Derived.Test.YtgclbeagifoifaaPc25
/- Two pairs of tables in one memory: each call on one pair leaves the other; copies; whether two are the same. -/
namespace Go.Proofs.Ytgclbeagifoifaa
open Go.RowKit
set_option linter.unusedVariables false
def AlikeK (s s' : Lk) : Prop := s.n = s'.n ∧ s.wt = s'.wt ∧ s.hm = s'.hm
theorem pairs_nodup {l : List (Nat × Nat)} (h : (l.map (·.1)).Nodup) : l.Nodup := by
  rw [List.nodup_iff_pairwise_ne] at h ⊢
  rw [List.pairwise_map] at h
  exact h.imp fun hab e => hab (by rw [e])
theorem sameL_iff {s s' : Lk} {l l' : List (Nat × Nat)} {wt wt' : Nat → Nat} (ok : s.Ok) (ok' : s'.Ok) (h : RefIs s l wt) (h' : RefIs s' l' wt') (hn : (l.map (·.1)).Nodup) (hn' : (l'.map (·.1)).Nodup) :
    SameL s.n s'.n l l' wt wt' ↔ AlikeK s s' := by
  constructor
  · rintro ⟨e1, e2, e3, e4⟩
    have hsub : l ⊆ l' := fun p hp => by
      obtain ⟨i, hi⟩ := List.mem_iff_getElem?.1 hp
      exact (rHold_mem hn' p.1 p.2).1 (e4 i p hi)
    have hsub' : l' ⊆ l := fun p hp => by
      refine Classical.byContradiction fun hno => ?_
      have hnd : (p :: l).Nodup := List.nodup_cons.2 ⟨hno, pairs_nodup hn⟩
      have hs2 : (p :: l) ⊆ l' := fun q hq => by
        rcases List.mem_cons.1 hq with rfl | hq
        · exact hp
        · exact hsub hq
      have := List.Nodup.length_le_of_subset hnd hs2
      simp at this
      omega
    refine ⟨e1, wt_ext ok ok' fun c _ => ?_, ?_⟩
    · by_cases hc : c < s.n
      · rw [← h.wt c hc, ← h'.wt c (by omega)]
        exact e3 c hc
      · rw [ok.wo c (by omega), ok'.wo c (by omega)]
    · funext id
      have key : ∀ c, s.hm id = some c ↔ s'.hm id = some c := fun c => by
        rw [← hmI_some, ← hmI_some, ← h.hold id, ← h'.hold id, rHold_mem hn, rHold_mem hn']
        exact ⟨fun hm => hsub hm, fun hm => hsub' hm⟩
      cases e : s.hm id with
      | some c => exact ((key c).1 e).symm
      | none =>
        cases e' : s'.hm id with
        | none => rfl
        | some c => rw [(key c).2 e'] at e; cases e
  · rintro ⟨e1, e2, e3⟩
    have hmem : ∀ p, p ∈ l ↔ p ∈ l' := fun p => by
      rw [show p = (p.1, p.2) from rfl, ← rHold_mem hn, ← rHold_mem hn', h.hold, h'.hold, e3]
    have l1 := List.Nodup.length_le_of_subset (pairs_nodup hn) (fun p hp => (hmem p).1 hp)
    have l2 := List.Nodup.length_le_of_subset (pairs_nodup hn') (fun p hp => (hmem p).2 hp)
    refine ⟨e1, by omega, fun c hc => ?_, fun i p hi => ?_⟩
    · rw [h.wt c hc, h'.wt c (by omega), e2]
    · exact (rHold_mem hn' _ _).2 ((hmem p).1 (List.mem_of_getElem? hi))
theorem rSame_all {w : World} {B B' gr gr' m m' : Nat} {s s' : Lk} {vL vW vL' vW' : Value} (r : RIs w B gr s m vL vW) (r' : RIs w B' gr' s' m' vL' vW') (ok : s.Ok) (ok' : s'.Ok) {q : Bool} (hq : q = true ↔ AlikeK s s') :
    Calls Try.prog 13 #[.pointer (some ⟨gr, 0, none⟩), .pointer (some ⟨gr', 0, none⟩)] w fun e w' => e = .returned (.bool q) ∧ Below w.heap.size w w' := by
  obtain ⟨l, wt, hR, hI, hn, _⟩ := r.ex
  obtain ⟨l', wt', hR', hI', hn', _⟩ := r'.ex
  exact rSame_any hR hR' (hq.trans (sameL_iff ok ok' hI hI' hn hn').symm)
theorem own_monoS {w : World} {B B' n s : Nat} {e : TypeId} {v : Value} {xs : List Value} (h : w.ownsRow B e s v n xs) (hb : B' ≤ B) : w.ownsRow B' e s v n xs := by
  refine ⟨h.1, ?_⟩
  rcases h.2 with h0 | ⟨g, cap, cur, rfl, hg, hr⟩
  · exact .inl h0
  · exact .inr ⟨g, cap, cur, rfl, Nat.le_trans hb hg, hr⟩
theorem RIs.mono {w : World} {B B' gr m : Nat} {s : Lk} {vL vW : Value} (r : RIs w B gr s m vL vW) (hb : B' ≤ B) : RIs w B' gr s m vL vW := by
  obtain ⟨l, wt, hR, h2⟩ := r.ex
  exact ⟨l, wt, ⟨hR.row, own_monoS hR.li hb, own_monoS hR.wa hb⟩, h2⟩
theorem RIs.from_ {w : World} {B gr m : Nat} {s : Lk} {vL vW : Value} (r : RIs w B gr s m vL vW) (hg : B ≤ gr) : ∀ k, rfp gr vL vW k → B ≤ k ∧ k < w.heap.size := by
  obtain ⟨l, wt, hR, h2⟩ := r.ex
  intro k hk
  refine ⟨?_, hR.lt k hk⟩
  rcases hk with rfl | hk | hk
  · exact hg
  · exact own2_from hR.li k hk
  · exact (own_fromA hR.wa k hk).1
theorem rCopy_all {w : World} {B gr m : Nat} {s : Lk} {vL vW : Value} (r : RIs w B gr s m vL vW) (ok : s.Ok) (hm : m ≤ 1000) :
    Calls Try.prog 11 #[.pointer (some ⟨gr, 0, none⟩)] w fun e w' => ∃ gr' vL' vW', e = .returned (.pointer (some ⟨gr', 0, none⟩)) ∧ RIs w' w.heap.size gr' s m vL' vW' ∧ w.heap.size ≤ gr' ∧ Below w.heap.size w w' := by
  obtain ⟨l, wt, hR, hI, hn, hl⟩ := r.ex
  refine (rCopy_any hR (by omega) ok.n2).mono ?_
  rintro e w' ⟨gr', vL', vW', rfl, h, hg, hb⟩
  exact ⟨gr', vL', vW', rfl, ⟨l, wt, h, hI, hn, hl⟩, hg, hb⟩
/-- All blocks of a pair. -/
def pfp (g b gr : Nat) (vL vW : Value) (k : Nat) : Prop := kfp g b k ∨ rfp gr vL vW k
theorem DSt.lt {w0 w : World} {g b gr n m : Nat} {s : Lk} {vL vW : Value} (h : DSt w0 w g b gr n m s vL vW) : ∀ k, pfp g b gr vL vW k → k < w.heap.size := by
  obtain ⟨l, wt, hR, _⟩ := h.r.ex
  rintro k ((rfl | rfl) | hk)
  · exact h.k.row.lt
  · exact h.k.mp.lt
  · exact hR.lt k hk
/-- What stands behind a call on one pair. -/
def DoFr (w0 w : World) (g b gr n m : Nat) (vL vW : Value) (e : Ending) (w' : World) : Prop :=
  ∃ g' b' s' vL', e = .returned (.tuple #[.pointer (some ⟨g', 0, none⟩), .bool true]) ∧ DSt w0 w' g' b' gr n (m + 1) s' vL' vW ∧ But w w' (pfp g b gr vL vW) ∧ ∀ k, pfp g' b' gr vL' vW k → pfp g b gr vL vW k ∨ w.heap.size ≤ k
theorem pfp_new {w : World} {g b gr : Nat} {vL vL' vW : Value} (h : ∀ k, vL'.ownBlock = some k → vL.ownBlock = some k ∨ w.heap.size ≤ k) : ∀ k, pfp g b gr vL' vW k → pfp g b gr vL vW k ∨ w.heap.size ≤ k := by
  rintro k (hk | hk | hk | hk)
  · exact .inl (.inl hk)
  · exact .inl (.inr (.inl hk))
  · exact (h k hk).imp (fun h1 => .inr (.inr (.inl h1))) id
  · exact .inl (.inr (.inr (.inr hk)))
theorem do7_fr {w0 w : World} {g b gr n m : Nat} {s : Lk} {vL vW : Value} (h : DSt w0 w g b gr n m s vL vW) (hm : m ≤ 900) (z c : Int) {id : Nat} (hi : id < 18446744073709551616) :
    Calls Try.prog 8 #[.pointer (some ⟨g, 0, none⟩), .pointer (some ⟨gr, 0, none⟩), .agg #[.int .i64 z, .int .i64 c, .int .u64 (id : Int)]] w (DoFr w0 w g b gr n m vL vW) := by
  have hB := h.bel.size
  have hz := h.sz
  by_cases h1 : z = 1
  · subst h1
    refine (do7_try h.k h.r hB hm (by omega) c hi).mono ?_
    rintro e w' ⟨rfl, hk, ⟨vL', hr, hf⟩, hb⟩
    exact ⟨g, b, _, vL', rfl, h.next hk hr (tryT_n _ _ _) (by have := tryT_sz s c id; omega) hb, hb, pfp_new hf⟩
  · by_cases h2 : z = 2
    · subst h2
      refine (do7_rel h.k h.r hB hm (by omega) c hi).mono ?_
      rintro e w' ⟨rfl, hk, ⟨vL', hr, hf⟩, hb⟩
      exact ⟨g, b, _, vL', rfl, h.next hk (hr.grow (Nat.le_succ _)) (relT_n _ _ _) (by have := relT_sz s c id; omega) hb, hb, pfp_new hf⟩
    · by_cases h3 : z = 3
      · subst h3
        refine (do7_drop h.k h.r hB hm c hi).mono ?_
        rintro e w' ⟨rfl, hk, ⟨vL', hr, hf⟩, hb⟩
        exact ⟨g, b, _, vL', rfl, h.next hk (hr.grow (Nat.le_succ _)) (dropT_n _ _) (by rw [dropT_sz]; omega) hb, hb, pfp_new hf⟩
      · by_cases h4 : z = 4
        · subst h4
          refine (do7_copy h.k h.r hB hm c hi).mono ?_
          rintro e w' ⟨g', b', rfl, hk, hr, hg, hb, hbl, _⟩
          refine ⟨g', b', s, vL, rfl, ⟨hk, hr.grow (Nat.le_succ _), h.sn, by omega, Nat.le_trans hB hg, Nat.le_trans hB hb, h.lr, Below.and h.bel hbl⟩, But.of_below hbl _, ?_⟩
          rintro k ((rfl | rfl) | hk2)
          · exact .inr hg
          · exact .inr hb
          · exact .inl (.inr hk2)
        · refine (do7_else h.k h.r hB hm z (by omega) c hi).mono ?_
          rintro e w' ⟨rfl, hk, ⟨vL', hr, hf⟩, hb⟩
          exact ⟨g, b, _, vL', rfl, h.next hk (hr.grow (Nat.le_succ _)) rfl (by omega) hb, hb, pfp_new hf⟩
theorem DSt.apart {w0 w w' : World} {g b gr n m : Nat} {s : Lk} {vL vW : Value} {fp : Nat → Prop} (h : DSt w0 w g b gr n m s vL vW) (hb : But w w' fp) (hbl : Below w0.heap.size w0 w') (hn : ∀ k, fp k → ¬ pfp g b gr vL vW k) : DSt w0 w' g b gr n m s vL vW :=
  ⟨h.k.but hb (fun hf => hn g hf (.inl (.inl rfl))) (fun hf => hn b hf (.inl (.inr rfl))), h.r.but hb (fun k hf hr => hn k hf (.inr hr)), h.sn, h.sz, h.lg, h.lb, h.lr, hbl⟩
theorem ksame_all {w0 w : World} {g b gr n m g' b' gr' n' m' : Nat} {s s' : Lk} {vL vW vL' vW' : Value} (h : DSt w0 w g b gr n m s vL vW) (h' : DSt w0 w g' b' gr' n' m' s' vL' vW') {q : Bool} (hq : q = true ↔ AlikeK s s') :
    Calls Try.prog 12 #[.pointer (some ⟨g, 0, none⟩), .pointer (some ⟨g', 0, none⟩)] w fun e w' => e = .returned (.bool q) ∧ Below w.heap.size w w' := ksame_any h.k h'.k hq
end Go.Proofs.Ytgclbeagifoifaa
/- LockPlays returns true, whatever the number and the acts: the walk of its body. -/
namespace Go.Proofs.Ytgclbeagifoifaa
open Go.RowKit
set_option linter.unusedVariables false
theorem new7 {w w1 w2 : World} {g b gr N : Nat} {vW : Value} (hK : KAt w1 g b (lk0 N)) (hg : w.heap.size ≤ g) (hb : w.heap.size ≤ b) (hB : Below w.heap.size w w1) (hR : RefAt w2 w1.heap.size gr N [] (fun _ => 0) (.slice none 0 0) vW) (hgr : w1.heap.size ≤ gr) (hB2 : Below w1.heap.size w1 w2) :
    DSt w w2 g b gr N 0 (lk0 N) (.slice none 0 0) vW :=
  ⟨hK.below hB2, ⟨[], _, ⟨hR.row, own2_mono hR.li hB.size, own_monoS hR.wa hB.size⟩, RefIs.nil N, by simp, by simp⟩, rfl, Nat.le_refl _, hg, hb, Nat.le_trans hB.size hgr, Below.and hB hB2⟩
set_option maxRecDepth 100000 in
set_option maxHeartbeats 8000000 in
theorem lockPlays_in {w : World} {A : Option Addr} {n cap N : Nat} {l : List Ac} (hA : 0 < l.length → ∃ ga, A = some ga ∧ ActsAt w ga l) (hl : l.length = n) (h60 : n ≤ 100) (hcap : n ≤ cap) (h1 : 1 ≤ N) (h8 : N ≤ 64) : Calls Try.prog 3 #[.int .i64 (N : Int), .slice A n cap] w fun e w' => e = .returned (.bool true) ∧ Below w.heap.size w w' := by
  have d1 : decide (100 < (n : Int)) = false := by simp; omega
  have HA := Lib.hid hA
  have HL := Lib.hid hl
  clear hA hl
  go_enter Try.func3, Try.ntmps3
  go_wp2_with fail
  refine (knew_yes (n := N) w h1 (by omega)).mono ?_
  rintro e w1 ⟨g, b, rfl, hK, hg, hb, hB⟩
  have HK1 := Lib.hid (And.intro hK (And.intro hg (And.intro hb hB)))
  clear hK hg hb hB
  go_wp2_with fail
  refine (rNew_yes (n := N) w1 h1 (by omega)).mono ?_
  rintro e w2 ⟨gr, vW, rfl, hR, hgr, hB2⟩
  have HD := Lib.hid (new7 HK1.out.1 HK1.out.2.1 HK1.out.2.2.1 HK1.out.2.2.2 hR hgr hB2)
  clear hR hgr hB2 HK1
  go_wp2_with fail
  go_loopw [5, 9] (fun t v wr => ∃ (i g b : Nat) (s : Lk) (vL : Value), t = .pointer (some ⟨g, 0, none⟩) ∧ v = .int .i64 (i : Int) ∧ i ≤ n ∧ DSt w wr g b gr N i s vL vW) (fun _ v _ => n - (intOf v).toNat)
  case atStart => exact ⟨0, g, b, lk0 N, _, rfl, rfl, by omega, HD.out⟩
  case round =>
    rename World => wr
    obtain ⟨i, g, b, s, vL, rfl, rfl, hin, hD⟩ := hrel
    have HD1 := Lib.hid hD
    clear hD
    by_cases hlt : i < n
    · obtain ⟨ga, rfl, hAt⟩ := HA.out (by rw [HL.out]; omega)
      have hAt' := hAt.below HD1.out.bel
      have c0 := hAt'.c0 i (by rw [HL.out]; exact hlt)
      have c1 := hAt'.c1 i (by rw [HL.out]; exact hlt)
      have c2 := hAt'.c2 i (by rw [HL.out]; exact hlt)
      have hfit := hAt'.fit i (by rw [HL.out]; exact hlt)
      generalize (acAt l i).id = id at *
      generalize (acAt l i).c = ac at *
      generalize (acAt l i).k = ak at *
      have HDO := Lib.hid (do7_any HD1.out (by omega) ak ac hfit)
      clear hAt hAt' hfit
      go_wp2_with fail
      refine HDO.out.mono ?_
      rintro e w3 ⟨g', b', s', vL', rfl, hD3⟩
      have HD3 := Lib.hid hD3
      obtain ⟨gw, cw, hv, hnc, hmx, _, c1r⟩ := hD3.r.wcell (c := 0) (by rw [hD3.sn]; omega)
      rw [hD3.sn] at c1r
      have HS := Lib.hid (same7_any hD3.k hD3.r (by omega))
      clear hD3 c0 c1 c2 hv hnc hmx HDO
      by_cases hN8 : N ≤ 8
      · have hN8I : (N : Int) ≤ 8 := by omega
        go_wp2_with fail
        refine HS.out.mono ?_
        rintro e w4 ⟨rfl, hb4⟩
        have HD4 := Lib.hid (HD3.out.below hb4)
        clear hb4
        go_wp2
        exact ⟨⟨i + 1, g', b', s', vL', rfl, by go_num, by omega, HD4.out⟩, by simp [intOf]; omega⟩
      · have hN8I : ¬ (N : Int) ≤ 8 := by omega
        go_wp2
        exact ⟨⟨i + 1, g', b', s', vL', rfl, by go_num, by omega, HD3.out⟩, by simp [intOf]; omega⟩
    · obtain rfl : i = n := by omega
      have hii : decide ((i : Int) < (i : Int)) = false := by simp
      have HS := Lib.hid (same7_any HD1.out.k HD1.out.r (by omega))
      go_wp2_with fail
      refine HS.out.mono ?_
      rintro e w4 ⟨rfl, hb4⟩
      have HD4 := Lib.hid (HD1.out.below hb4)
      have HK := Lib.hid (known7_any w4)
      clear hb4
      go_wp2_with fail
      refine HK.out.mono ?_
      rintro e w7 ⟨rfl, hb7⟩
      have HFIN := Lib.hid (HD4.out.below hb7).bel
      clear hb7
      go_wp2
      go_ret
      exact ⟨rfl, HFIN.out⟩
set_option maxRecDepth 100000 in
set_option maxHeartbeats 4000000 in
theorem lockPlays_no (z : Int) (A : Option Addr) (n cap : Nat) (w : World) (hn : n ≤ maxLen) (h : 100 < n ∨ z < 1 ∨ 64 < z) : Calls Try.prog 3 #[.int .i64 z, .slice A n cap] w fun e w' => e = .returned (.bool true) ∧ Below w.heap.size w w' := by
  have HKn := Lib.hid (known7_any w)
  by_cases hp : 100 < n
  · have hpI : (100 : Int) < (n : Int) := by omega
    clear h
    go_enter Try.func3, Try.ntmps3
    go_wp2_with fail
    refine HKn.out.mono ?_
    rintro e w2 ⟨rfl, hb⟩
    have HB2 := Lib.hid hb
    clear hb
    go_wp2
    go_ret
    exact ⟨rfl, HB2.out⟩
  · have hpI : ¬ (100 : Int) < (n : Int) := by omega
    have HN1 := Lib.hid (knew_no z w (by omega))
    have HN2 := Lib.hid (rNew_no z w (by omega))
    clear h
    go_enter Try.func3, Try.ntmps3
    go_wp2_with fail
    refine HN1.out.mono ?_
    rintro e w2 ⟨rfl, rfl⟩
    go_wp2_with fail
    refine HN2.out.mono ?_
    rintro e w2 ⟨rfl, rfl⟩
    go_wp2_with fail
    refine HKn.out.mono ?_
    rintro e w2 ⟨rfl, hb⟩
    have HB2 := Lib.hid hb
    clear hb
    go_wp2
    go_ret
    exact ⟨rfl, HB2.out⟩
theorem lockPlays_walk (z : Int) (A : Option Addr) (n cap : Nat) (l : List Ac) (W : World) (w0 : (Lit.int .i64 z).wf = true) (w1 : ActsIn W A n cap l) : Calls Try.prog 3 #[.int .i64 z, .slice A n cap] W fun e w' => e = .returned (.bool true) ∧ Below W.heap.size W w' := by
  obtain ⟨hl, hc, hm, hA⟩ := w1
  by_cases h1 : 100 < n ∨ z < 1 ∨ 64 < z
  · exact lockPlays_no z A n cap W hm h1
  · obtain ⟨N, rfl⟩ : ∃ N : Nat, z = (N : Int) := ⟨z.toNat, by omega⟩
    exact lockPlays_in hA hl (by omega) hc (by omega) (by omega)
end Go.Proofs.Ytgclbeagifoifaa
