/- Texts of this claim, packed: N9Made, N9Eff, N9LawS. -/
import Derived.Test.YteojhhfcfdkmdaaPm38
import Derived.Test.YteojhhfcfdkmdaaPm36
import Derived.Test.YteojhhfcfdkmdaaPm39
set_option linter.unusedSimpArgs false
set_option linter.unusedVariables false
/- The law's made and want: the stores of a change that is asked for; of any change, any node; conditions: numbers of the width. -/
namespace Go.Proofs.Yteojhhfcfdkmdaa
open Go.RowKit
set_option linter.unusedVariables false
set_option linter.unusedSimpArgs false
/-- The change that is asked for, by its number modulo 6. -/
def askP (base : Int) (n : Nd) (d key ptr : Int) : List (Int × Int) × Int :=
  if d = 0 then insP base n key ptr else if d = 1 then delP base n key else if d = 2 then repP base n else if d = 3 then swapP base n key ptr else if d = 4 then cutP base n key else linkP base n ptr
def kd9 (k : Int) : Int := (IntKind.u64.wrap k).tmod 6
theorem kd9_lt (k : Int) : 0 ≤ kd9 k ∧ kd9 k < 6 := by
  unfold kd9
  rw [IntKind.wrap_u64, Int.tmod_eq_emod_of_nonneg (by omega)]
  omega
end Go.Proofs.Yteojhhfcfdkmdaa
/- Where the effect of a change lies: of any change that is not refused; plain facts; no conditions. -/
namespace Go.Proofs.Yteojhhfcfdkmdaa
open Go.RowKit
set_option linter.unusedVariables false
set_option linter.unusedSimpArgs false
theorem es_range {n : Nd} (hi : n.inv = -1) : n.es = (List.range n.len).map n.ent := by unfold Nd.es; rw [ok_vp n hi]
/-- The entries about a place. -/
theorem es_at {n : Nd} (hi : n.inv = -1) {p : Nat} (hp : p < n.len) : ∃ A B, n.es = A ++ n.ent p :: B ∧ A.length = p ∧ A = (List.range p).map n.ent := by
  obtain ⟨c, hc⟩ : ∃ c, n.len = p + (c + 1) := ⟨n.len - p - 1, by omega⟩
  refine ⟨(List.range p).map n.ent, ((List.range c).map (fun x => p + (x + 1))).map n.ent, ?_, by simp, rfl⟩
  rw [es_range hi, hc, List.range_add, List.map_append, List.range_succ_eq_map]
  simp [List.map_map, Function.comp_def]
theorem find_key {n : Nd} {key : Int} {p : Nat} (h : n.find key = some p) : n.key p = key := by
  have := List.find?_some h
  simpa using this
theorem first_ge (n : Nd) (high : Int) : ∀ m, ∃ k, k ≤ m ∧ (∀ i, i < k → n.key i < high) ∧ (k < m → high ≤ n.key k)
  | 0 => ⟨0, Nat.le_refl _, fun i h => absurd h (Nat.not_lt_zero i), fun h => absurd h (Nat.lt_irrefl _)⟩
  | m + 1 => by
    obtain ⟨k, hk, h1, h2⟩ := first_ge n high m
    by_cases hkm : k < m
    · exact ⟨k, by omega, h1, fun _ => h2 hkm⟩
    · by_cases hg : high ≤ n.key k
      · exact ⟨k, by omega, h1, fun _ => hg⟩
      · refine ⟨k + 1, by omega, fun i hi => ?_, fun h => by omega⟩
        obtain h | rfl : i < k ∨ i = k := by omega
        · exact h1 i h
        · omega
theorem cut_act {n : Nd} (hm : n.may 0 false = true) (hi : n.inv = -1) {high : Int} {k : Nat} (hk : k ≤ n.len) (h1 : ∀ i, i < k → n.key i < high) (h2 : k < n.len → high ≤ n.key k) : n.act high true = (List.range k).map n.ent := by
  have hl := cut_len hm hi hk h1 h2
  unfold Nd.act actL at hl ⊢
  rw [ok_vp n hi] at hl ⊢
  obtain ⟨c, hc⟩ : ∃ c, n.len = k + c := ⟨n.len - k, by omega⟩
  rw [hc] at hl ⊢
  have hf : (List.range k).filter (n.inB high true) = List.range k := List.filter_eq_self.2 (fun i hi => by simp [Nd.inB, h1 i (List.mem_range.1 hi)])
  rw [List.length_map, List.range_add, List.filter_append, List.length_append, hf, List.length_range] at hl
  rw [List.range_add, List.filter_append, hf, List.eq_nil_of_length_eq_zero (l := List.filter (n.inB high true) (List.map (fun x => k + x) (List.range c))) (by omega), List.append_nil]
/-- A change with an effect: the stores ahead of it, it, those behind it. -/
structure Eff (base : Int) (n : Nd) (l : List (Int × Int)) (now : List (Int × Int)) (j : Nat) : Prop where
  ex : ∃ a s b m1 m2 m3, l = a ++ s :: b ∧ a.length = j ∧ Steps base (Has n.es) n a m1 ∧ ap base m1 s = some m2 ∧ Steps base (Has now) m2 b m3 ∧ m3.inv = -1
  ne : now ≠ n.es
theorem refE_ptr {b : Int} {n : Nd} {p : Int} (h : refE b n [p] = 0) : refE b n [] = 0 ∧ n.had p = false := by
  rw [refE_had] at h
  split at h
  · omega
  · rename_i h2
    exact ⟨h, by cases hh : n.had p <;> simp_all⟩
theorem eff_del {base : Int} {n : Nd} {key : Int} {l : List (Int × Int)} (h : delP base n key = (l, 0)) : ∃ A B e, n.es = A ++ e :: B ∧ e.1 = key ∧ Eff base n l (A ++ B) 1 := by
  unfold delP at h
  split at h
  · rename_i hE
    exact absurd (congrArg Prod.snd h) hE
  · rename_i hE
    have hE : refE base n [] = 0 := by omega
    obtain ⟨hm, hi⟩ := refE_zero hE
    split at h
    · cases h
    · rename_i p hp
      obtain ⟨A, B, hes, hA, _⟩ := es_at hi (find_lt hp)
      obtain ⟨m1, m2, m3, s1, s2, s3, s4⟩ := plan_del (base := base) hm hi hes (IntKind.u64.wrap (n.ct + 1)) (IntKind.u64.wrap (n.ct + 2))
      rw [hA] at s2 s3
      refine ⟨A, B, n.ent p, hes, find_key hp, ⟨[(base + 24, IntKind.u64.wrap (n.ct + 1))], _, _, m1, m2, m3, ?_, rfl, by rw [hes]; exact s1, s2, s3, s4⟩, fun he => ?_⟩
      · have h1 := congrArg Prod.fst h
        dsimp only at h1
        rw [← h1]
        simp [wholeL]
      · have := congrArg List.length he
        rw [hes] at this
        simp at this
theorem eff_cut {base : Int} {n : Nd} {high : Int} {l : List (Int × Int)} (h : cutP base n high = (l, 0)) : ∃ A B e, n.es = A ++ e :: B ∧ A = n.act high true ∧ Eff base n l A 1 := by
  unfold cutP at h
  split at h
  · rename_i hE
    exact absurd (congrArg Prod.snd h) hE
  · rename_i hE
    have hE : refE base n [] = 0 := by omega
    obtain ⟨hm, hi⟩ := refE_zero hE
    split at h
    · cases h
    · rename_i hne
      have hle : (n.act high true).length ≤ n.len := by
        unfold Nd.act
        refine Nat.le_trans (actL_len _ _ _ _) ?_
        rw [ok_vp n hi]
        simp
      obtain ⟨k, hk, h1, h2⟩ := first_ge n high n.len
      have hkl : (n.act high true).length = k := cut_len hm hi hk h1 h2
      obtain ⟨A, B, hes, hA, hAr⟩ := es_at hi (show (n.act high true).length < n.len by omega)
      obtain ⟨m1, m2, m3, s1, s2, s3, s4⟩ := plan_cut (base := base) hm hi hes (IntKind.u64.wrap (n.ct + 1)) (IntKind.u64.wrap (n.ct + 2))
      rw [hA] at s2
      refine ⟨A, B, _, hes, ?_, ⟨[(base + 24, IntKind.u64.wrap (n.ct + 1))], _, _, m1, m2, m3, ?_, rfl, by rw [hes]; exact s1, s2, s3, s4⟩, fun he => ?_⟩
      · rw [cut_act hm hi (high := high) hk h1 h2, hAr, hkl]
      · have h1 := congrArg Prod.fst h
        dsimp only at h1
        rw [← h1]
        simp [wholeL]
      · have := congrArg List.length he
        rw [hes] at this
        simp at this
theorem had_not9 {n : Nd} {p : Int} (hi : n.inv = -1) (h : n.had p = false) : p ≠ 0 ∧ p ≠ n.fi ∧ ∀ e ∈ n.es, p ≠ e.2 := by
  unfold Nd.had at h
  simp only [Bool.or_eq_false_iff] at h
  obtain ⟨⟨h1, h2⟩, h3⟩ := h
  refine ⟨by simpa using h1, by simpa using h2, fun e he => ?_⟩
  rw [es_range hi] at he
  obtain ⟨i, hi2, rfl⟩ := List.mem_map.1 he
  rw [List.any_eq_false] at h3
  have := h3 i hi2
  intro h4
  rw [h4] at this
  simp [Nd.ent] at this
theorem eff_swap {base : Int} {n : Nd} {key ptr : Int} {l : List (Int × Int)} (h : swapP base n key ptr = (l, 0)) : ∃ A B o, n.es = A ++ (key, o) :: B ∧ Eff base n l (A ++ (key, ptr) :: B) 1 := by
  unfold swapP at h
  split at h
  · rename_i hE
    exact absurd (congrArg Prod.snd h) hE
  · rename_i hE
    have hE : refE base n [ptr] = 0 := by omega
    obtain ⟨hE, hh⟩ := refE_ptr hE
    obtain ⟨hm, hi⟩ := refE_zero hE
    obtain ⟨hp0, hpf, hpe⟩ := had_not9 hi hh
    split at h
    · cases h
    · rename_i p hp
      obtain ⟨A, B, hes, hA, _⟩ := es_at hi (find_lt hp)
      rw [show n.ent p = (key, n.ptr p) by rw [← find_key hp]; rfl] at hes
      have hsub : ∀ e ∈ A ++ B, ptr ≠ e.2 := fun e he => hpe e (by
        rw [hes]
        rcases List.mem_append.1 he with h | h
        · exact List.mem_append_left _ h
        · exact List.mem_append_right _ (List.mem_cons_of_mem _ h))
      obtain ⟨m1, m2, m3, s1, s2, s3, s4⟩ := plan_swap (base := base) hm hi hes hp0 hpf hsub (IntKind.u64.wrap (n.ct + 1)) (IntKind.u64.wrap (n.ct + 2))
      rw [hA] at s2
      refine ⟨A, B, n.ptr p, hes, ⟨[(base + 24, IntKind.u64.wrap (n.ct + 1))], _, _, m1, m2, m3, ?_, rfl, by rw [hes]; exact s1, s2, s3, s4⟩, fun he => ?_⟩
      · have h1 := congrArg Prod.fst h
        dsimp only at h1
        rw [← h1]
        simp [wholeL]
      · rw [hes] at he
        have := (List.cons.inj (List.append_cancel_left he)).1
        have h4 : ptr = n.ptr p := congrArg Prod.snd this
        exact hpe (key, n.ptr p) (by rw [hes]; simp) h4
theorem eff_link {base : Int} {n : Nd} {next : Int} {l : List (Int × Int)} (h : linkP base n next = (l, 0)) : n.inv = -1 ∧ ∃ m, Steps base (Has n.es) n l m ∧ m.inv = -1 := by
  unfold linkP at h
  split at h
  · rename_i hE
    exact absurd (congrArg Prod.snd h) hE
  · rename_i hE
    have hE : refE base n [] = 0 := by omega
    obtain ⟨hm, hi⟩ := refE_zero hE
    have h1 := congrArg Prod.fst h
    dsimp only at h1
    rw [← h1]
    exact ⟨hi, plan_link hm hi _ _ _⟩
theorem eff_rep {base : Int} {n : Nd} {l : List (Int × Int)} (h : repP base n = (l, 0)) : ∃ m, Steps base (Has n.es) n l m ∧ m.inv = -1 := by
  unfold repP at h
  split at h
  · rename_i hb
    have hm : n.may 0 false = true := by simp at hb; exact hb.2
    split at h
    · cases h
    · rename_i hi
      obtain ⟨p, hp, hpl⟩ := inv_lt hi
      rw [hp, Int.toNat_natCast] at h
      have h1 := congrArg Prod.fst h
      dsimp only at h1
      rw [← h1]
      obtain ⟨m, s1, s2⟩ := plan_rep (base := base) hm hp (IntKind.u64.wrap (n.ct + 1)) (IntKind.u64.wrap (n.ct + 2))
      refine ⟨m, ?_, s2⟩
      have : wholeL base n (dnL base n p (n.len - 1 - p)) = (base + 24, IntKind.u64.wrap (n.ct + 1)) :: dnL base n p (n.len - 1 - p) ++ [(base + 24, IntKind.u64.wrap (n.ct + 2))] := by simp [wholeL]
      rw [this]
      exact s1
  · cases h
theorem key_mono {n : Nd} (hm : n.may 0 false = true) (hi : n.inv = -1) {i j : Nat} (hij : i ≤ j) (hj : j < n.len) : n.key i ≤ n.key j := by
  have hup := keys_up9 hm
  rw [ok_vp n hi] at hup
  obtain h | rfl : i < j ∨ i = j := by omega
  · have := List.pairwise_iff_getElem.1 hup i j (by simp; omega) (by simpa using hj) h
    simp only [List.getElem_map, List.getElem_range] at this
    omega
  · exact Int.le_refl _
theorem at_first {n : Nd} (hi : n.inv = -1) {key : Int} {k : Nat} (hk : k ≤ n.len) (h1 : ∀ i, i < k → n.key i < key) (h2 : ∀ i, k ≤ i → i < n.len → key < n.key i) : n.at key = k := by
  have H : ∀ m, m ≤ n.len → atL n key (List.range m) = min m k := by
    intro m
    induction m with
    | zero => intro _; simp [atL]
    | succ m ih =>
      intro hm
      rw [List.range_succ, atL_snoc, ih (by omega)]
      by_cases hmk : m < k
      · rw [if_pos (by have := h1 m hmk; omega)]; omega
      · rw [if_neg (by have := h2 m (by omega) (by omega); omega)]; omega
  unfold Nd.at
  rw [ok_vp n hi, H _ (Nat.le_refl _)]
  omega
theorem eff_ins {base : Int} {n : Nd} {key ptr : Int} {l : List (Int × Int)} (h : insP base n key ptr = (l, 0)) : ∃ A B, n.es = A ++ B ∧ (∀ e ∈ A, e.1 < key) ∧ (∀ e ∈ B, key < e.1) ∧ 2 ≤ l.length ∧ Eff base n l (A ++ (key, ptr) :: B) (l.length - 2) := by
  unfold insP at h
  split at h
  · rename_i hE
    exact absurd (congrArg Prod.snd h) hE
  · rename_i hE
    have hE : refE base n [ptr] = 0 := by omega
    obtain ⟨hE, hh⟩ := refE_ptr hE
    obtain ⟨hm, hi⟩ := refE_zero hE
    obtain ⟨hp0, hpf, hpe⟩ := had_not9 hi hh
    split at h
    · cases h
    · rename_i hfm
      split at h
      · cases h
      · rename_i h8
        have hl8 := n.len_le
        simp only [Bool.or_eq_true, not_or, Bool.not_eq_true, Bool.not_eq_false'] at hfm
        obtain ⟨hf, hmh⟩ := hfm
        have hnk : ∀ i, i < n.len → n.key i ≠ key := fun i hi2 he => by
          unfold Nd.find at hf
          rw [ok_vp n hi] at hf
          have : ((List.range n.len).find? (fun p => n.key p == key)).isSome = true := List.find?_isSome.2 ⟨i, List.mem_range.2 hi2, by simpa using he⟩
          rw [hf] at this
          cases this
        have hmh2 : n.lo < key ∨ (n.lo = key ∧ n.l = 0) := by
          unfold Nd.mayHave at hmh
          simp at hmh
          rcases hmh with h | ⟨h, h2⟩
          · exact Or.inl h
          · exact Or.inr ⟨h.symm, h2⟩
        obtain ⟨k, hk, h1, h2⟩ := first_ge n key n.len
        have h2' : ∀ i, k ≤ i → i < n.len → key < n.key i := fun i hki hil => by
          have a1 := h2 (by omega)
          have a2 := key_mono hm hi hki hil
          have a3 := hnk i hil
          omega
        have hat := at_first hi hk h1 h2'
        obtain ⟨c, hc⟩ : ∃ c, n.len = k + c := ⟨n.len - k, by omega⟩
        have hes : n.es = (List.range k).map n.ent ++ ((List.range c).map (fun x => k + x)).map n.ent := by
          rw [es_range hi, hc, List.range_add, List.map_append]
        have hA : ∀ e ∈ (List.range k).map n.ent, e.1 < key := fun e he => by
          obtain ⟨i, hi2, rfl⟩ := List.mem_map.1 he
          exact h1 i (List.mem_range.1 hi2)
        have hB : ∀ e ∈ ((List.range c).map (fun x => k + x)).map n.ent, key < e.1 := fun e he => by
          obtain ⟨i, hi2, rfl⟩ := List.mem_map.1 he
          obtain ⟨d, hd, rfl⟩ := List.mem_map.1 hi2
          exact h2' _ (by omega) (by have := List.mem_range.1 hd; omega)
        have hAl : ((List.range k).map n.ent).length = k := by simp
        generalize (List.range k).map n.ent = A at hes hA hAl
        generalize ((List.range c).map (fun x => k + x)).map n.ent = B at hes hB
        obtain ⟨m1, m2, m3, s1, s2, s3, s4⟩ := plan_ins (base := base) hm hi (by omega) hes hA hB hmh2 hp0 hpf (fun e he => hpe e (by rw [hes]; exact he)) (IntKind.u64.wrap (n.ct + 1)) (IntKind.u64.wrap (n.ct + 2))
        have hl := congrArg Prod.fst h
        dsimp only at hl
        have hl2 : l = ((base + 24, IntKind.u64.wrap (n.ct + 1)) :: (mkRoom base n A.length ++ [(kA base A.length, key)])) ++ (pA base A.length, ptr) :: [(base + 24, IntKind.u64.wrap (n.ct + 2))] := by
          rw [← hl]
          unfold insL
          rw [hat, hAl]
          simp [wholeL]
        refine ⟨A, B, hes, hA, hB, by rw [hl2]; simp, ⟨_, _, _, m1, m2, m3, hl2, ?_, by rw [hes]; exact s1, s2, s3, s4⟩, fun he => ?_⟩
        · rw [hl2]; simp
        · have := congrArg List.length he
          rw [hes] at this
          simp at this
end Go.Proofs.Yteojhhfcfdkmdaa
/- FastStores: the law is true of any base, any node, any change that is asked for; conditions: numbers of the width. -/
namespace Go.Proofs.Yteojhhfcfdkmdaa
open Go.RowKit
set_option linter.unusedVariables false
set_option linter.unusedSimpArgs false
theorem wholeL_len (base : Int) (n : Nd) (l : List (Int × Int)) : (wholeL base n l).length = l.length + 2 := by
  simp [wholeL]
theorem refE_rng (b : Int) (n : Nd) (l : List Int) : 0 ≤ refE b n l ∧ refE b n l ≤ 7 := by
  unfold refE
  split
  · split <;> omega
  · omega
theorem askP_ok (base : Int) (n : Nd) (d key ptr : Int) : (askP base n d key ptr).1.length ≤ 100 ∧ 0 ≤ (askP base n d key ptr).2 ∧ (askP base n d key ptr).2 ≤ 7 := by
  have h8 := n.len_le
  have h1 := refE_rng base n [ptr]
  have h0 := refE_rng base n []
  unfold askP
  split
  · unfold insP
    split
    · exact ⟨Nat.zero_le _, h1⟩
    · split
      · simp
      · split
        · simp
        · have hm := mkRoom_len base n (n.at key) (by omega)
          refine ⟨?_, Int.le_refl _, by omega⟩
          show (insL base n key ptr).length ≤ 100
          unfold insL
          rw [wholeL_len, List.length_append]
          simp
          omega
  · split
    · unfold delP
      split
      · exact ⟨Nat.zero_le _, h0⟩
      · split
        · simp
        · rename_i p hp
          have := find_lt hp
          refine ⟨?_, Int.le_refl _, by omega⟩
          show (wholeL base n _).length ≤ 100
          rw [wholeL_len, List.length_cons, dnL_len]
          omega
    · split
      · unfold repP
        split
        · split
          · simp
          · refine ⟨?_, Int.le_refl _, by omega⟩
            show (wholeL base n _).length ≤ 100
            rw [wholeL_len, dnL_len]
            omega
        · simp
      · split
        · unfold swapP
          split
          · exact ⟨Nat.zero_le _, h1⟩
          · split
            · simp
            · refine ⟨?_, Int.le_refl _, by omega⟩
              show (wholeL base n _).length ≤ 100
              rw [wholeL_len]
              simp
        · split
          · unfold cutP
            split
            · exact ⟨Nat.zero_le _, h0⟩
            · split
              · simp
              · refine ⟨?_, Int.le_refl _, by omega⟩
                show (wholeL base n _).length ≤ 100
                rw [wholeL_len]
                simp
          · unfold linkP
            split
            · exact ⟨Nat.zero_le _, h0⟩
            · refine ⟨?_, Int.le_refl _, by omega⟩
              show (wholeL base n _).length ≤ 100
              rw [wholeL_len]
              simp
end Go.Proofs.Yteojhhfcfdkmdaa
