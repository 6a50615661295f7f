/- Texts of this claim, packed: 7RRuns. -/
import Derived.Test.YtgclbeagifoifaaPc37
import Derived.Test.YtgclbeagifoifaaPc07
/- The document's Runs, by its own list: on whom a client's going on hangs; for any table and client. -/
namespace Go.Proofs.Ytgclbeagifoifaa
open Go.RowKit
set_option linter.unusedVariables false
theorem nx_wt {s : Lk} (ok : s.Ok) {c d : Nat} (h : nx s c = some d) : s.wt c ≠ 0 ∧ d ≠ c := by
  have h0 : s.wt c ≠ 0 := fun e => by
    unfold nx at h
    rw [e, ok.h0] at h
    cases h
  refine ⟨h0, fun e => ?_⟩
  subst e
  exact ok.hw _ h0 h
/-- What a wait's cell is. -/
theorem RIs.wcell {w : World} {B gr m : Nat} {s : Lk} {vL vW : Value} (r : RIs w B gr s m vL vW) {c : Nat} (hc : c < s.n) :
    ∃ gw cap, vW = .slice (some ⟨gw, 0, none⟩) s.n cap ∧ s.n ≤ cap ∧ cap ≤ maxLen ∧ w.cell? ⟨gw, c, none⟩ = some (.int .u64 (s.wt c : Int)) ∧ w.cell? ⟨gr, 1, none⟩ = some (.slice (some ⟨gw, 0, none⟩) s.n cap) := by
  obtain ⟨l, wt, hR, hI, _⟩ := r.ex
  obtain ⟨gw, cap, rfl, hnc, hm, hcell, _⟩ := hR.wset hc
  have c1 := hR.row.cell 1
  simp only [List.getElem?_toArray, List.getElem?_cons_succ, List.getElem?_cons_zero] at c1
  rw [hI.wt c hc] at hcell
  exact ⟨gw, cap, rfl, hnc, hm, hcell, c1⟩
theorem RIs.is_ {w : World} {B gr m : Nat} {s : Lk} {vL vW : Value} (r : RIs w B gr s m vL vW) (c : Int) :
    Calls Try.prog 25 #[.pointer (some ⟨gr, 0, none⟩), .int .i64 c] w fun e w' => e = .returned (.bool (decide (0 ≤ c ∧ c < (s.n : Int)))) ∧ w = w' := by
  obtain ⟨l, wt, hR, _⟩ := r.ex
  exact rIs_any hR c
set_option maxHeartbeats 1000000 in
theorem rNext_any {w : World} {B gr m : Nat} {s : Lk} {vL vW : Value} (r : RIs w B gr s m vL vW) (ok : s.Ok) {c : Nat} (hc : c < s.n) :
    Calls Try.prog 37 #[.pointer (some ⟨gr, 0, none⟩), .int .i64 (c : Int)] w fun e w' => e = .returned (.int .i64 (hmI (nx s c))) ∧ w = w' := by
  have HH := r.holder (s.wt c)
  have hn64 := ok.n2
  obtain ⟨gw, cap, rfl, hnc, hm, hcell, c1⟩ := r.wcell hc
  have HN := Lib.hid (show s.hm (s.wt c) = nx s c from rfl)
  rw [HN.out] at HH
  have HX := Lib.hid (fun d (h : nx s c = some d) => nx_wt ok h)
  have HW0 := Lib.hid (fun (h : s.wt c = 0) => (show nx s c = none by unfold nx; rw [h, ok.h0]))
  obtain ⟨n, hn⟩ : ∃ n, n = s.n := ⟨_, rfl⟩
  obtain ⟨x, hx⟩ : ∃ x, x = s.wt c := ⟨_, rfl⟩
  rw [← hn] at hc hnc c1 hn64
  rw [← hx] at hcell HH HW0
  obtain ⟨o, ho⟩ : ∃ o, o = nx s c := ⟨_, rfl⟩
  rw [← ho] at HH HX HW0 ⊢
  have HXx := Lib.hid hx
  have HH := Lib.hid HH
  have hc2 : (c : Int) < (n : Int) := by omega
  clear r hn hx ho HN
  by_cases h0 : x = 0
  · obtain rfl := HW0.out h0
    subst h0
    clear HW0 HX HXx
    go_enter Try.func37, Try.ntmps37
    go_wp2
    go_ret
    exact ⟨rfl, rfl⟩
  · have hz : ((x : Int) == 0) = false := by rw [Bool.eq_false_iff]; intro hh; have := beq_iff_eq.1 hh; omega
    have hz2 : decide ((x : Int) = 0) = false := by simp; omega
    clear HW0
    cases o with
    | none =>
      have q1 : ((-1 : Int) == (c : Int)) = false := by rw [Bool.eq_false_iff]; intro hh; have := beq_iff_eq.1 hh; omega
      clear h0 HX HXx
      go_enter Try.func37, Try.ntmps37
      go_wp2_with fail
      refine HH.out.mono ?_
      rintro e w1 ⟨rfl, rfl⟩
      go_wp2
      go_ret
      exact ⟨rfl, rfl⟩
    | some d =>
      have hd := (HX.out d rfl).2
      have q1 := nat_ne' hd
      rw [show hmI (some d) = (d : Int) from rfl] at HH ⊢
      clear h0 HX HXx hd
      go_enter Try.func37, Try.ntmps37
      go_wp2_with fail
      refine HH.out.mono ?_
      rintro e w1 ⟨rfl, rfl⟩
      go_wp2
      go_ret
      exact ⟨rfl, rfl⟩
/-- As many steps as there are clients end, or lead into a circle. -/
theorem it_lt {s : Lk} (ok : s.Ok) {c : Nat} (hc : c < s.n) : ∀ {k x : Nat}, it s c k = some x → x < s.n
  | 0, x, h => by cases h; exact hc
  | k + 1, x, h => by
    unfold it at h
    cases e : it s c k with
    | none => rw [e] at h; cases h
    | some y => rw [e] at h; exact nx_lt ok h
theorem it_some {s : Lk} {c : Nat} {n x : Nat} (h : it s c n = some x) : ∀ i, i ≤ n → ∃ y, it s c i = some y := by
  intro i hi
  cases e : it s c i with
  | some y => exact ⟨y, rfl⟩
  | none =>
    rw [show n = i + (n - i) from by omega, it_add, e] at h
    cases h
theorem it_circ {s : Lk} (ok : s.Ok) {c x : Nat} (hc : c < s.n) (h : it s c s.n = some x) : ∃ m, 0 < m ∧ it s x m = some x := by
  have hall := it_some h
  have hf : ∃ f : Nat → Nat, ∀ i, i ≤ s.n → it s c i = some (f i) := ⟨fun i => (it s c i).getD 0, fun i hi => by
    obtain ⟨y, hy⟩ := hall i hi
    show it s c i = some ((it s c i).getD 0)
    rw [hy]; rfl⟩
  obtain ⟨f, hf⟩ := hf
  have hrep : ∃ i j, i < j ∧ j ≤ s.n ∧ f i = f j := by
    refine Classical.byContradiction fun hno => ?_
    have hnd : ((List.range (s.n + 1)).map f).Nodup := by
      rw [List.nodup_iff_pairwise_ne, List.pairwise_map]
      refine List.Pairwise.imp_of_mem ?_ List.pairwise_lt_range
      intro a b ha hb hab e
      rw [List.mem_range] at hb
      exact hno ⟨a, b, hab, by omega, e⟩
    have hsub : (List.range (s.n + 1)).map f ⊆ List.range s.n := by
      intro y hy
      obtain ⟨i, hi, rfl⟩ := List.mem_map.1 hy
      rw [List.mem_range] at hi ⊢
      exact it_lt ok hc (hf i (by omega))
    have := List.Nodup.length_le_of_subset hnd hsub
    simp at this
    omega
  obtain ⟨i, j, hij, hjn, e⟩ := hrep
  have h1 : it s (f i) (j - i) = some (f i) := by
    rw [← it_from (hf i (by omega)) (by omega), hf j hjn, e]
  have h2 : it s (f i) (s.n - i) = some x := by rw [← it_from (hf i (by omega)) (by omega)]; exact h
  refine ⟨j - i, by omega, ?_⟩
  have h3 : it s (f i) ((j - i) + (s.n - i)) = some x := by rw [it_add, h1]; exact h2
  rw [Nat.add_comm, it_add, h2] at h3
  exact h3
def RNInv (s : Lk) (c0 k : Nat) (v5 v1 : Value) : Prop := ∃ i cur : Nat, v5 = .int .i64 (i : Int) ∧ v1 = .int .i64 (cur : Int) ∧ it s c0 i = some cur ∧ cur < s.n ∧ i ≤ s.n ∧ s.n - i ≤ k
set_option maxRecDepth 100000 in
set_option maxHeartbeats 1600000 in
theorem rRuns_any {w : World} {B gr m : Nat} {s : Lk} {vL vW : Value} (r : RIs w B gr s m vL vW) (ok : s.Ok) {c : Nat} (hc : c < s.n) :
    Calls Try.prog 29 #[.pointer (some ⟨gr, 0, none⟩), .int .i64 (c : Int)] w (IntPost w (fun x => RunsIs s c x)) := by
  have HI := r.is_ (c : Int)
  rw [decide_eq_true (show 0 ≤ (c : Int) ∧ (c : Int) < (s.n : Int) by omega)] at HI
  have HI := Lib.hid HI
  have HNX := Lib.hid (fun (k : Nat) (hk : k < s.n) => rNext_any r ok hk)
  obtain ⟨gw, cap, rfl, hnc, hm, _, c1⟩ := r.wcell hc
  have HOK := Lib.hid ok
  have HC := Lib.hid hc
  have hn64 := ok.n2
  obtain ⟨n, hn⟩ : ∃ n, n = s.n := ⟨_, rfl⟩
  have HN := Lib.hid hn
  rw [← hn] at hnc c1 hn64 HNX HC
  clear r ok hc hn
  go_enter Try.func29, Try.ntmps29
  go_wp2_with fail
  refine HI.out.mono ?_
  rintro e w1 ⟨rfl, rfl⟩
  go_wp2
  go_loopg [5, 1] n (fun k v5 v1 wr => RNInv s c k v5 v1 ∧ w = wr)
  case atStart => exact ⟨⟨0, c, rfl, rfl, rfl, by rw [← HN.out]; exact HC.out, Nat.zero_le _, by have := HN.out; omega⟩, rfl⟩
  case round =>
    obtain ⟨⟨i, cur, rfl, rfl, hit, hcur, hin, hk⟩, rfl⟩ := hrel
    rw [← HN.out] at hcur hin hk
    have HIT := Lib.hid hit
    have HA := Lib.hid (HNX.out cur hcur)
    clear hit
    by_cases hlt : i < n
    · cases hnx : nx s cur with
      | none =>
        have HE := Lib.hid (show IntPost w (fun x => RunsIs s c x) (.returned (.int .i64 (cur : Int))) w from ⟨cur, .inl ⟨i, HIT.out, hnx⟩, rfl, rfl⟩)
        rw [hnx, show hmI none = -1 from rfl] at HA
        clear hnx
        go_wp2_with fail
        refine HA.out.mono ?_
        rintro e w1 ⟨rfl, rfl⟩
        go_wp2
        go_ret
        exact HE.out
      | some d =>
        have hdl : d < n := by rw [HN.out]; exact nx_lt HOK.out hnx
        have HE := Lib.hid (show RNInv s c (gk - 1) (.int .i64 ((i + 1 : Nat) : Int)) (.int .i64 (d : Int)) from ⟨i + 1, d, rfl, rfl, by
          show (it s c i).bind (nx s) = some d
          rw [HIT.out]; exact hnx, by rw [← HN.out]; exact hdl, by rw [← HN.out]; omega, by rw [← HN.out]; omega⟩)
        rw [hnx, show hmI (some d) = (d : Int) from rfl] at HA
        have hneg : decide ((d : Int) < 0) = false := by simp
        have hgk : gk - 1 < gk := by omega
        clear hnx
        go_wp2_with fail
        refine HA.out.mono ?_
        rintro e w1 ⟨rfl, rfl⟩
        go_wp2_with fail
        refine HA.out.mono ?_
        rintro e w1 ⟨rfl, rfl⟩
        go_wp2
        go_roundg (gk - 1)
        case measure => exact hgk
        case rel => exact ⟨by have := HE.out; simpa using this, rfl⟩
    · obtain rfl : i = n := by omega
      obtain ⟨mm, hm0, hmm⟩ := it_circ HOK.out (by rw [← HN.out]; exact HC.out) (by rw [← HN.out]; exact HIT.out)
      have HC2 := Lib.hid hmm
      have step : ∀ j a, j < mm → it s cur j = some a → ∃ d, nx s a = some d ∧ d < s.n ∧ it s cur (j + 1) = some d := by
        intro j a hj ha
        have e := it_from ha (show j ≤ mm by omega)
        rw [hmm] at e
        cases hd : nx s a with
        | none =>
          rw [it_end hd (by omega)] at e
          cases e
        | some d => exact ⟨d, rfl, nx_lt HOK.out hd, by simp [it, ha, hd]⟩
      have HS := Lib.hid step
      obtain ⟨d, hd, hdn, hd1⟩ := step 0 cur hm0 rfl
      have HD1 := Lib.hid hd1
      rw [hd, show hmI (some d) = (d : Int) from rfl] at HA
      clear hmm step hd hd1
      go_wp2_with fail
      refine HA.out.mono ?_
      rintro e w1 ⟨rfl, rfl⟩
      go_wp2
      go_loopg [6, 7] (mm - 1) (fun k v5 v6 wr => LeastInv s cur mm k v5 v6 ∧ w = wr)
      case atStart => exact ⟨⟨1, cur, d, by omega, by omega, HD1.out, hdn, rfl, rfl, by rw [← HN.out]; exact hcur, ⟨0, by omega, rfl⟩, fun i y hi hy => by
        obtain rfl : i = 0 := by omega
        cases hy
        exact Nat.le_refl _⟩, rfl⟩
      case round =>
        obtain ⟨⟨j, l, a, hj1, hjk, ha, han, rfl, rfl, hln, hlo, hmin⟩, rfl⟩ := hrel
        rw [← HN.out] at han hln
        have HA := Lib.hid ha
        have HL := Lib.hid hlo
        have HM := Lib.hid hmin
        clear ha hlo hmin
        by_cases e : a = cur
        · subst e
          have HE : Hid (IntPost w (fun x => RunsIs s c x) (.returned (.int .i64 (l : Int))) w) := Lib.hid ⟨l, .inr ⟨a, ⟨i, HIT.out⟩, ⟨mm, hm0, HC2.out⟩, ⟨_, HL.out.choose_spec.2⟩, fun y hy => by
            obtain ⟨i, hi, hy'⟩ := circ_all (by omega) HA.out hy
            exact HM.out i y hi hy'⟩, rfl, rfl⟩
          clear hm0
          go_wp2
          go_ret
          exact HE.out
        · have hjm : j < mm := by
            by_cases h1 : j < mm
            · exact h1
            · obtain rfl : j = mm := by omega
              have := HA.out
              rw [HC2.out] at this
              cases this
              exact absurd rfl e
          obtain ⟨d2, hd2, hdn2, hd3⟩ := HS.out j a hjm HA.out
          have HA2 := HNX.out a han
          rw [hd2, show hmI (some d2) = (d2 : Int) from rfl] at HA2
          have HA2 := Lib.hid HA2
          have HD3 := Lib.hid hd3
          have hne := nat_ne e
          clear hd2 hd3
          have hrel : ∀ l' : Nat, (l' = l ∨ l' = a) → l' ≤ l → l' ≤ a → LeastInv s cur mm (gk - 1) (.int .i64 (l' : Int)) (.int .i64 (d2 : Int)) := by
            intro l' h1 h2 h3
            refine ⟨j + 1, l', d2, by omega, by omega, HD3.out, hdn2, rfl, rfl, by rw [← HN.out]; omega, ?_, ?_⟩
            · rcases h1 with rfl | rfl
              · obtain ⟨i, hi, hl⟩ := HL.out
                exact ⟨i, by omega, hl⟩
              · exact ⟨j, by omega, HA.out⟩
            · intro i y hi hy
              by_cases e : i < j
              · exact Nat.le_trans h2 (HM.out i y e hy)
              · obtain rfl : i = j := by omega
                have := HA.out
                rw [hy] at this
                cases this
                exact h3
          have HR := Lib.hid hrel
          have hgk : gk - 1 < gk := by omega
          clear hrel
          by_cases hl : a < l
          · have hl' : decide ((a : Int) < (l : Int)) = true := by simpa using hl
            have hl2 : (a : Int) < (l : Int) := by omega
            have HP := Lib.hid (HR.out a (.inr rfl) (by omega) (by omega))
            go_wp2_with fail
            refine HA2.out.mono ?_
            rintro e w1 ⟨rfl, rfl⟩
            go_wp2
            go_roundg (gk - 1)
            case measure => exact hgk
            case rel => exact ⟨HP.out, rfl⟩
          · have hl' : decide ((a : Int) < (l : Int)) = false := by simpa using hl
            have hl2 : ¬ (a : Int) < (l : Int) := by omega
            have HP := Lib.hid (HR.out l (.inl rfl) (by omega) (by omega))
            go_wp2_with fail
            refine HA2.out.mono ?_
            rintro e w1 ⟨rfl, rfl⟩
            go_wp2
            go_roundg (gk - 1)
            case measure => exact hgk
            case rel => exact ⟨HP.out, rfl⟩
theorem rRuns_out {w : World} {B gr m : Nat} {s : Lk} {vL vW : Value} (r : RIs w B gr s m vL vW) {c : Int} (hc : isC s c = false) :
    Calls Try.prog 29 #[.pointer (some ⟨gr, 0, none⟩), .int .i64 c] w fun e w' => e = .returned (.int .i64 (-1)) ∧ w = w' := by
  have HI := r.is_ c
  have hno : ¬ (0 ≤ c ∧ c < (s.n : Int)) := by simpa [isC] using hc
  rw [decide_eq_false hno] at HI
  have HI := Lib.hid HI
  clear r
  go_enter Try.func29, Try.ntmps29
  go_wp2_with fail
  refine HI.out.mono ?_
  rintro e w1 ⟨rfl, rfl⟩
  go_wp2
  go_ret
  exact ⟨rfl, rfl⟩
end Go.Proofs.Ytgclbeagifoifaa
