/- NodeRises: the law is true of any node, any key; where the library's table of powers lies as it was laid. -/
import Derived.Test.YthifamaoffkedaaDoorN8Known
import Derived.Test.YthifamaoffkedaaDoorN8Plc
import Derived.Test.YthifamaoffkedaaDoorN8RefM
import Derived.Test.YthifamaoffkedaaDoorN8RefL
namespace Go.Proofs.YthifamaoffkedaaDoor
open Go.RowKit
set_option linter.unusedVariables false
theorem sorted_get {n : Nd} {i j : Nat} (hi : i < j) (hj : j < n.vp.length) : n.vp.getD i 0 < n.vp.getD j 0 := by
  have := List.pairwise_iff_getElem.1 n.vp_sorted i j (by omega) hj hi
  rw [List.getD_eq_getElem?_getD, List.getD_eq_getElem?_getD, List.getElem?_eq_getElem (by omega), List.getElem?_eq_getElem hj]
  exact this
theorem keys_up {n : Nd} (h : n.may 0 false = true) : (n.vp.map n.key).Pairwise (· < ·) := by
  have := ((riseB_iff _ _ _).1 (may_fit h).1.rise).2
  unfold Nd.es at this
  rw [List.map_map] at this
  exact this
/-- Of a node that may be: a valid place is ahead of where a key goes just if its key is not above it. -/
theorem at_key {n : Nd} (h : n.may 0 false = true) (key : Int) {x : Nat} (hx : x ∈ n.vp) : x < n.at key ↔ n.key x ≤ key := by
  have hup := keys_up h
  have hso := n.vp_sorted
  unfold Nd.at
  generalize n.vp = l at hup hso hx
  suffices H : ∀ (r l : List Nat), l = r.reverse → (l.map n.key).Pairwise (· < ·) → l.Pairwise (· < ·) → (∀ x ∈ l, x < atL n key l ↔ n.key x ≤ key) from H l.reverse l (by simp) hup hso x hx
  intro r
  induction r with
  | nil => intro l hl _ _ x hx; subst hl; simp at hx
  | cons y r ih =>
    intro l hl hup hso x hx
    rw [List.reverse_cons] at hl
    subst hl
    rw [List.map_append, List.pairwise_append] at hup
    rw [List.pairwise_append] at hso
    have ih' := ih r.reverse rfl hup.1 hso.1
    rw [atL_snoc]
    have hky : ∀ z ∈ r.reverse, n.key z < n.key y := fun z hz => hup.2.2 (n.key z) (List.mem_map.2 ⟨z, hz, rfl⟩) (n.key y) (by simp)
    have hpy : ∀ z ∈ r.reverse, z < y := fun z hz => hso.2.2 z hz y (by simp)
    rcases List.mem_append.1 hx with hx | hx
    · have h1 := hky x hx
      have h2 := hpy x hx
      have h3 := ih' x hx
      split
      · constructor <;> intro <;> omega
      · exact h3
    · simp only [List.mem_singleton] at hx
      subst hx
      have hle : ¬ n.key x ≤ key → ¬ x < atL n key r.reverse := by
        intro hk hlt
        have : ∀ (l : List Nat), (∀ z ∈ l, z < x) → atL n key l ≤ x := by
          intro l
          suffices H2 : ∀ (q l : List Nat), l = q.reverse → (∀ z ∈ l, z < x) → atL n key l ≤ x from H2 l.reverse l (by simp)
          intro q
          induction q with
          | nil => intro l hl _; subst hl; exact Nat.zero_le _
          | cons a q ih2 =>
            intro l hl hz
            rw [List.reverse_cons] at hl
            subst hl
            rw [atL_snoc]
            split
            · have := hz a (by simp); omega
            · exact ih2 _ rfl (fun z hz' => hz z (List.mem_append_left _ hz'))
        have := this r.reverse hpy
        omega
      split
      · constructor <;> intro <;> omega
      · constructor
        · intro hh; exact absurd hh (hle (by assumption))
        · intro hh; exact absurd hh (by assumption)
/-- Where a key is found, there it goes, one place behind. -/
theorem find_at {n : Nd} (h : n.may 0 false = true) {key : Int} {x : Nat} (hf : n.find key = some x) : n.at key = x + 1 := by
  have hm := List.mem_of_find?_eq_some hf
  have hk : n.key x = key := by simpa using List.find?_some hf
  have h1 := (at_key h key hm).2 (by omega)
  by_cases e : n.at key = x + 1
  · exact e
  · have hv : ∃ z ∈ n.vp, n.at key = z + 1 := by
      have : ∀ (q l : List Nat), l = q.reverse → atL n key l = 0 ∨ ∃ z ∈ l, atL n key l = z + 1 := by
        intro q
        induction q with
        | nil => intro l hl; subst hl; exact Or.inl rfl
        | cons a q ih =>
          intro l hl
          rw [List.reverse_cons] at hl
          subst hl
          rw [atL_snoc]
          split
          · exact Or.inr ⟨a, by simp, rfl⟩
          · rcases ih _ rfl with h | ⟨z, hz, h⟩
            · exact Or.inl h
            · exact Or.inr ⟨z, List.mem_append_left _ hz, h⟩
      rcases this n.vp.reverse n.vp (by simp) with h2 | h2
      · unfold Nd.at at h1; omega
      · exact h2
    obtain ⟨z, hz, ha⟩ := hv
    have h2 := (at_key h key hz).1 (by omega)
    have hzx : x < z := by omega
    obtain ⟨i, hi, rfl⟩ := List.getElem_of_mem hm
    obtain ⟨j, hj, rfl⟩ := List.getElem_of_mem hz
    have hup := keys_up h
    have hij : i < j := by
      by_cases hij : i < j
      · exact hij
      · by_cases e2 : i = j
        · subst e2; omega
        · have := List.pairwise_iff_getElem.1 n.vp_sorted j i hj hi (by omega)
          omega
    have := List.pairwise_iff_getElem.1 hup i j (by simpa using hi) (by simpa using hj) hij
    simp at this
    omega
set_option maxRecDepth 100000 in
set_option maxHeartbeats 8000000 in
theorem lawRises (n : Nd) (key : Int) (w : World) (T : Pow w) : Calls Tryd.prog 8 #[n.V, .int .u64 key] w fun e w' => e = .returned (.bool true) ∧ Below w.heap.size w w' := by
  have r0 := Row.new w 27 n.cl.toArray
  obtain ⟨Wa, hWa⟩ : ∃ Wa, Wa = w.alloc (.cells n.cl.toArray 27) := ⟨_, rfl⟩
  rw [← hWa] at r0
  have HB0 := Lib.hid (show Below w.heap.size w Wa by rw [hWa]; exact alloc_low _ _)
  have HRR := Lib.hid (fun W' (hb : Below Wa.heap.size Wa W') => (show NdAt W' w.heap.size n from r0.below hb r0.lt))
  have HWa := Lib.hid hWa
  have HK := Lib.hid (fun W' (hb : Below Wa.heap.size Wa W') => n8known_any W' (pow_low T (low_and HB0.out hb)))
  have HM := Lib.hid (fun W' => r8May_any n 0 false W')
  have HF := Lib.hid (fun W' => nFind_any n key W')
  have HA := Lib.hid (fun W' => nAt_any n key W')
  have HP := Lib.hid (fun W' => nPlaces_any n W')
  have hal := at_le n key
  have HAK := Lib.hid (fun (h : n.may 0 false = true) k (hk : k < n.vp.length) => at_key h key (x := n.vp.getD k 0) (by rw [List.getD_eq_getElem?_getD, List.getElem?_eq_getElem hk]; exact List.getElem_mem _))
  have HFA := Lib.hid (fun (h : n.may 0 false = true) x hf => find_at h (key := key) (x := x) hf)
  have HV8 := Lib.hid (fun k (hk : k < n.vp.length) => (show n.vp.getD k 0 < 8 from n.vp_lt8 (by rw [List.getD_eq_getElem?_getD, List.getElem?_eq_getElem hk]; exact List.getElem_mem _)))
  have hln := n.vp_length
  obtain ⟨L, hL⟩ : ∃ L, L = n.vp := ⟨_, rfl⟩
  rw [← hL] at HP HAK HV8 hln
  obtain ⟨f, hf⟩ : ∃ f, f = n.find key := ⟨_, rfl⟩
  rw [← hf] at HF HFA
  obtain ⟨a, ha⟩ : ∃ a, a = n.at key := ⟨_, rfl⟩
  rw [← ha] at HA hal HAK HFA
  have hr0 := Below.refl Wa.heap.size Wa
  obtain ⟨b, hb⟩ : ∃ b, b = n.may 0 false := ⟨_, rfl⟩
  rw [← hb] at HM HAK HFA
  clear r0 hWa hL hf ha hb
  cases b with
  | false =>
    go_enter Tryd.func8, Tryd.ntmps8
    go_wp2_with (first
      | (rw [← HWa.out]; (refine wpList_load_mid rfl _ _ rfl w.heap.size 0 rfl n.cl _ (ndR (HRR.out _ (by assumption))) Tryd.underlying27 rfl ndI ?_))
      | (go_at_call 27; refine (HM.out _).mono ?_; rintro e w1 ⟨rfl, h1⟩; have h1 := low_and hr0 h1)
      | (go_at_call 14; refine (HK.out _ (by assumption)).mono ?_; rintro e w6 ⟨rfl, h6⟩; have h6 := low_and h1 h6))
    go_ret
    exact ⟨rfl, low_and HB0.out h6⟩
  | true =>
    have HAK2 := Lib.hid (HAK.out rfl)
    have HFA2 := Lib.hid (HFA.out rfl)
    clear HAK HFA
    go_enter Tryd.func8, Tryd.ntmps8
    go_wp2_with (first
      | (rw [← HWa.out]; (refine wpList_load_mid rfl _ _ rfl w.heap.size 0 rfl n.cl _ (ndR (HRR.out _ (by assumption))) Tryd.underlying27 rfl ndI ?_))
      | (refine wpList_load_mid rfl _ _ rfl w.heap.size 0 rfl n.cl _ (ndR (HRR.out _ (by assumption))) Tryd.underlying27 rfl ndI ?_)
      | (go_at_call 27; refine (HM.out _).mono ?_; rintro e w1 ⟨rfl, h1⟩; have h1 := low_and hr0 h1)
      | (go_at_call 33; refine (HA.out _).mono ?_; rintro e w2 ⟨rfl, h2⟩; have h2 := low_and h1 h2)
      | (go_at_call 22; refine (HP.out _).mono ?_; rintro e w3 ⟨⟨v, rfl, ho⟩, h3⟩; obtain ⟨A, cap, rfl, hcells⟩ := own_getI ho; have HCE := Lib.hid hcells; clear ho hcells; have h3 := low_and h2 h3))
    obtain ⟨m, hm⟩ : ∃ m, m = L.length := ⟨_, rfl⟩
    rw [← hm] at HV8 hln HCE HAK2
    rw [← hm]
    have HM3 := Lib.hid h3
    clear hm h1 h2
    go_loopw [7] (fun i wr => ∃ k : Nat, k ≤ m ∧ i = .int .i64 (k : Int) ∧ ∃ q, wr = w3.drewN q) (fun i _ => m - (intOf i).toNat)
    case atStart => exact ⟨0, by omega, rfl, 0, rfl⟩
    case round =>
      obtain ⟨k, hk, rfl, q, rfl⟩ := hrel
      by_cases hlt : k < m
      · obtain ⟨g, rfl, hcl⟩ := HCE.out k hlt
        have hx8 := HV8.out k hlt
        have hka := HAK2.out k hlt
        obtain ⟨x, hx⟩ : ∃ x, x = L.getD k 0 := ⟨_, rfl⟩
        rw [← hx] at hcl hx8 hka
        have hxi : (x : Int) < 8 := by omega
        have ck := ndAt_key (HRR.out _ HM3.out) hx8
        have hki : (k : Int) < (m : Int) := by omega
        obtain ⟨y, hy⟩ : ∃ y, y = n.key x := ⟨_, rfl⟩
        rw [← hy] at ck hka
        unfold iv8 at hcl
        clear hx hy
        by_cases hyk : y ≤ key
        · have hxa := hka.2 hyk
          have d1 : decide (x < a) = true := by simpa using hxa
          have d2 : decide ((x : Int) < (a : Int)) = true := by simp; omega
          have d3 : decide (y ≤ key) = true := by simpa using hyk
          clear hka
          go_wp2_with fail
          go_quiet (fail)
          go_wp2
          exact ⟨⟨k + 1, by omega, by go_num, by first | exact drewN_two _ _ _ | exact ⟨_, rfl⟩⟩, by simp [intOf]; omega⟩
        · have hxa : ¬ x < a := fun h => hyk (hka.1 h)
          have d1 : decide (x < a) = false := by simpa using hxa
          have d2 : decide ((x : Int) < (a : Int)) = false := by simp; omega
          have d3 : decide (y ≤ key) = false := by simpa using hyk
          clear hka
          go_wp2_with fail
          go_quiet (fail)
          go_wp2
          exact ⟨⟨k + 1, by omega, by go_num, by first | exact drewN_two _ _ _ | exact ⟨_, rfl⟩⟩, by simp [intOf]; omega⟩
      · obtain rfl : k = m := by omega
        obtain ⟨W4, hW4⟩ : ∃ W4, W4 = w3.drewN q := ⟨_, rfl⟩
        have h4 : Below Wa.heap.size Wa W4 := by rw [hW4]; exact low_and HM3.out ⟨rfl, rfl, rfl, Nat.le_refl _, fun _ _ => rfl⟩
        rw [← hW4]
        clear hW4 h3
        cases f with
        | none =>
          have HF := Lib.hid (fun W' => (HF.out W').mono fun e w' h => (show e = .returned (.tuple #[.int .i64 0, .bool false]) ∧ Below W'.heap.size W' w' from h))
          go_wp2_with (first
            | (refine wpList_load_mid rfl _ _ rfl w.heap.size 0 rfl n.cl _ (ndR (HRR.out _ (by assumption))) Tryd.underlying27 rfl ndI ?_)
            | (go_at_call 30; refine (HF.out _).mono ?_; rintro e w5 ⟨rfl, h5⟩; have h5 := low_and h4 h5)
            | (go_at_call 14; refine (HK.out _ (by assumption)).mono ?_; rintro e w6 ⟨rfl, h6⟩; have h6 := low_and h5 h6))
          go_ret
          exact ⟨rfl, low_and HB0.out h6⟩
        | some p =>
          have HF := Lib.hid (fun W' => (HF.out W').mono fun e w' h => (show e = .returned (.tuple #[.int .i64 (p : Int), .bool true]) ∧ Below W'.heap.size W' w' from h))
          obtain rfl := HFA2.out p rfl
          have hpp : ((p + 1 : Nat) : Int) - 1 = (p : Int) := by omega
          have hpq : ((p : Int) == (p : Int)) = true := by simp
          go_wp2_with (first
            | (refine wpList_load_mid rfl _ _ rfl w.heap.size 0 rfl n.cl _ (ndR (HRR.out _ (by assumption))) Tryd.underlying27 rfl ndI ?_)
            | (go_at_call 30; refine (HF.out _).mono ?_; rintro e w5 ⟨rfl, h5⟩; have h5 := low_and h4 h5)
            | (go_at_call 14; refine (HK.out _ (by assumption)).mono ?_; rintro e w6 ⟨rfl, h6⟩; have h6 := low_and h5 h6))
          go_ret
          exact ⟨rfl, low_and HB0.out h6⟩
end Go.Proofs.YthifamaoffkedaaDoor
