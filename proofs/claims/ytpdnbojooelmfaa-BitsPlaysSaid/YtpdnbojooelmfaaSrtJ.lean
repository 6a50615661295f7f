/- slices.Sort of a slice of words that the call owns: what it leaves is rising, and the same elements; of at most 10^9. -/
import Derived.Test.YtpdnbojooelmfaaSrtI
namespace Go.Proofs.Ytpdnbojooelmfaa
open Go.RowKit
set_option linter.unusedVariables false
set_option maxRecDepth 100000 in
set_option maxHeartbeats 2000000 in
theorem pdq_none (w : World) (ad : Option Addr) (cap : Nat) (k : Int) : Calls Try.prog 34 #[.slice ad 0 cap, .int .i64 0, .int .i64 0, .int .i64 k] w fun e w' => e = .returned (.tuple #[]) ∧ w = w' := by
  go_enter Try.func34, Try.ntmps34
  go_wp2
  go_loopw [1, 2, 3, 8, 9] (fun a b _ _ _ wr => a = .int .i64 0 ∧ b = .int .i64 0 ∧ w = wr) (fun _ _ _ _ _ _ => 0)
  case atStart => exact ⟨rfl, rfl, rfl⟩
  case round =>
    rename World => wr
    obtain ⟨rfl, rfl, rfl⟩ := hrel
    go_wp2_with fail
    refine insSort_none.mono ?_
    rintro e w1 ⟨rfl, rfl⟩
    go_wp2
    (try simp only [Exit.inBlock, Exit.then])
    first | (go_end0; exact ⟨rfl, rfl⟩) | exact bodyPost_ret (results_none rfl _ _ _) rfl ⟨rfl, rfl⟩
theorem bl_le (n : Nat) (h : n ≤ 1000000000) : Lib.bitLen n ≤ 64 := by
  have := Any.bitLen_leU (n : Int) (by omega) (by omega)
  simpa using this
theorem nth_arr (d : Array Nat) (i : Nat) (h : i < d.toList.length) : d.toList[i] = d[i]! := by
  rw [getElem!_pos d i (by simpa using h)]
  simp
/-- What a sort leaves of a slice that the call owns. -/
def OwnSorts (w : World) (B n : Nat) (v : Value) (l : List Nat) (e : Ending) (w' : World) : Prop :=
  e = .returned (.tuple #[]) ∧ ∃ l' : List Nat, w'.ownsRow B 32 1 v n (l'.map wv) ∧ l'.Perm l ∧ l'.Pairwise (· ≤ ·) ∧ But w w' (fun k => v.ownBlock = some k)
set_option maxRecDepth 100000 in
set_option maxHeartbeats 2000000 in
theorem sortA_own {w : World} {B n : Nat} {v : Value} {l : List Nat} (ho : w.ownsRow B 32 1 v n (l.map wv)) (hn : n ≤ 1000000000) :
    Calls Try.prog 24 #[v] w (OwnSorts w B n v l) := by
  have hll : l.length = n := by have := ho.1; simpa using this
  rcases Nat.eq_zero_or_pos n with h0 | h0
  · subst h0
    obtain rfl : l = [] := List.eq_nil_of_length_eq_zero hll
    obtain ⟨ad, cap, hv⟩ : ∃ ad cap, v = .slice ad 0 cap := by
      rcases ho.2 with ⟨rfl, _⟩ | ⟨g, cap, cur, rfl, _⟩
      · exact ⟨none, 0, rfl⟩
      · exact ⟨some ⟨g, 0, none⟩, cap, rfl⟩
    have HE := Lib.hid (show OwnSorts w B 0 v [] (.returned (.tuple #[])) w from ⟨rfl, [], ho, List.Perm.refl _, List.Pairwise.nil, But.refl _ _⟩)
    subst hv
    clear ho hll
    have HB := Any.bits_Len bitsLenL (0 : Int) w (by omega) (by omega)
    have HB := Lib.hid HB
    go_enter Try.func24, Try.ntmps24
    go_wp2_with fail
    refine HB.out.mono ?_
    rintro e w1 ⟨rfl, rfl⟩
    go_wp2_with fail
    refine (pdq_none _ _ _ _).mono ?_
    rintro e w2 ⟨rfl, rfl⟩
    go_wp2
    go_end0
    exact HE.out
  · rcases ho.2 with ⟨_, h1⟩ | ⟨g, cap, cur, rfl, hg, hh, hnc, hcm, hcs, htk⟩
    · omega
    · have hcs' : cur.size = cap := by simpa using hcs
      have hcell : ∀ i, i < n → cur[0 + i]? = some (.int .u64 (l.toArray[i]! : Int)) := by
        intro i hi
        have h1 : (cur.toList.take (n * 1))[i]? = (l.map wv)[i]? := by rw [htk]
        rw [List.getElem?_take, if_pos (by omega), List.getElem?_map, List.getElem?_eq_getElem (by omega : i < l.length), Array.getElem?_toList] at h1
        rw [Nat.zero_add, h1, getElem!_pos l.toArray i (by simpa using (show i < l.length by omega))]
        rfl
      have hS : SwA w w g 0 cap n l.toArray := ⟨⟨cur, hh, hcs', by omega, hcell⟩, by simpa using hll, But.refl _ _⟩
      have HB := Any.bits_Len bitsLenL (n : Int) w (by omega) (by omega)
      rw [Int.toNat_natCast] at HB
      have HP := pdq_all (n + 1) w g 0 cap cap n l.toArray hS hn 0 n (Lib.bitLen n) (Nat.zero_le _) (Nat.le_refl _) (by have := bl_le n hn; omega) (Or.inl rfl) (by omega)
      rw [show ((0 : Nat) : Int) = 0 from rfl] at HP
      have HB := Lib.hid HB
      have HP := Lib.hid HP
      have HE : Hid (∀ e w', PdqEnd w g 0 cap n 0 n l.toArray e w' → OwnSorts w B n (.slice (some ⟨g, 0, none⟩) n cap) l e w') := Lib.hid (by
        rintro e w' ⟨he, d', hp, hs, ⟨cur', hr', hz', _, hc'⟩, hd', hb'⟩
        refine ⟨he, d'.toList, ⟨by simp [hd'], .inr ⟨g, cap, cur', rfl, hg, hr', hnc, hcm, by simpa using hz', ?_⟩⟩, ?_, ?_, hb'.mono (fun k hk => by rw [hk]; rfl)⟩
        · apply List.ext_getElem?
          intro i
          rw [List.getElem?_take, List.getElem?_map]
          by_cases hi : i < n
          · rw [if_pos (by omega), Array.getElem?_toList]
            have := hc' i hi
            rw [Nat.zero_add] at this
            rw [this, List.getElem?_eq_getElem (by simpa [hd'] using hi), nth_arr]
            rfl
          · rw [if_neg (by omega), List.getElem?_eq_none (by simp [hd']; omega)]
            rfl
        · obtain ⟨h1, h2, h3⟩ := hp
          have hsz : l.toArray.size = n := by simpa using hll
          rw [Array.extract_eq_self_of_le (by omega), Array.extract_eq_self_of_le (by omega)] at h3
          simpa using h3
        · rw [List.pairwise_iff_getElem]
          intro i j hi hj hij
          have := hs i j (Nat.zero_le _) hij (by simpa [hd'] using hj)
          simp only [ltN, decide_eq_false_iff_not] at this
          rw [nth_arr _ _ hi, nth_arr _ _ hj]
          omega)
      generalize Lib.bitLen n = q at *
      clear ho hll hh hS htk hcell hcs hcs'
      go_enter Try.func24, Try.ntmps24
      go_wp2_with fail
      refine HB.out.mono ?_
      rintro e w1 ⟨rfl, rfl⟩
      go_wp2_with fail
      refine HP.out.mono ?_
      intro e w2 hs
      have HF := Lib.hid (HE.out e w2 hs)
      obtain rfl : e = .returned (.tuple #[]) := hs.1
      clear hs
      go_wp2
      go_end0
      exact HF.out
end Go.Proofs.Ytpdnbojooelmfaa
