/- NodeMakes, walked: the node of entries, of any entries that lie as a slice. -/
import Derived.Test.YthcopnnpedhboaaDoorN8RefK
import Derived.Test.YthcopnnpedhboaaDoorN8Inv
import Derived.Test.YthcopnnpedhboaaDoorN8Known
import Derived.Test.YthcopnnpedhboaaDoorN8Same
import Derived.Test.YthcopnnpedhboaaDoorN8Eq
namespace Go.Proofs.YthcopnnpedhboaaDoor
open Go.RowKit
set_option linter.unusedVariables false
theorem store_genK (w1 : World) (n : Nd) : ∃ W2, W2 = (w1.alloc (.cells #[.int .i64 0, .int .u64 0, .int .u64 0, .int .u64 0, .int .u64 0, .int .u64 0, .int .u64 0, .int .u64 0, .int .u64 0, .int .u64 0, .int .u64 0, .int .u64 0, .int .u64 0, .int .u64 0, .int .u64 0, .int .u64 0, .int .u64 0, .int .u64 0, .int .u64 0, .int .u64 0, .int .u64 0] 29)).setCells w1.heap.size 0 n.cl ∧ NdAt W2 w1.heap.size n ∧ Below w1.heap.size w1 W2 :=
  ⟨_, rfl, row_setCells (Row.new w1 29 zeroNd.cl.toArray) rfl, setCells_low _ (Nat.le_refl _) (alloc_low _ _)⟩
theorem show_loadK {P : Program} {ops : Array Oper} {rest : List Oper} {Q : Exit → Act → World → Prop} {d : Option Nat} {t2 : TypeId} {x : Operand} {ps : String} {af : Array Edge} {g : Option (Nat × Bool)} {a : Act} {w : World} (h : wpList P ops Q (⟨d, .load 29 x, t2, ps, af, g⟩ :: rest) a w) : wpList P ops Q (⟨d, .load 29 x, t2, ps, af, g⟩ :: rest) a w := h
theorem show_storeK {P : Program} {ops : Array Oper} {rest : List Oper} {Q : Exit → Act → World → Prop} {d : Option Nat} {t2 : TypeId} {x y : Operand} {ps : String} {af : Array Edge} {a : Act} {w : World} (h : wpList P ops Q (⟨d, .store 29 x y, t2, ps, af, none⟩ :: rest) a w) : wpList P ops Q (⟨d, .store 29 x y, t2, ps, af, none⟩ :: rest) a w := h
theorem load_mgK {P : Program} {ops : Array Oper} {rest : List Oper} {op : Oper} {a : Act} {w : World} {Q : Exit → Act → World → Prop} (hw : Region.wanted op (yielded ops a.tmps) = true) (ty : TypeId) (x : Operand) (ho : op.op = .load ty x)
    (b o : Nat) (hx : a.eval x = .pointer (some ⟨b, o, none⟩)) (cs : List Value) (d : TypeDesc) (hc : w.rangeAt b o cs)
    (hu : P.underlying ty = some d) (hd : d.isRow = true) (hi : (P.info? ty).map (·.size) = some cs.length)
    (h : wpList P ops Q rest (a.put op.dst (.agg cs.toArray)) w) : wpList P ops Q (op :: rest) a w :=
  wpList_step fun K hK => by
    rw [if_pos hw]
    exact wp_load_mid ty x ho b o hx cs d hc hu hd hi (hK _ _ h)
theorem same_isK {w : World} {v v' : Value} {l m : List (Int × Int)} (h : EntAt w v l) (h' : EntAt w v' m) (hl : l.length ≤ 1000) (hm : m.length ≤ 1000) (hb : l = m) : Calls Tryd.prog 7 #[v, v'] w fun e w' => e = .returned (.bool true) ∧ Below w.heap.size w w' := by
  have := same_any h h' (by omega) (by omega)
  rw [decide_eq_true hb] at this
  exact this
theorem flatE_one (l : List (Int × Int)) : ∀ u ∈ flatE l, u.oneCell' = true := by
  intro u hu
  unfold flatE at hu
  rw [List.mem_flatMap] at hu
  obtain ⟨e, _, hu⟩ := hu
  simp only [List.mem_cons, List.not_mem_nil, or_false] at hu
  rcases hu with rfl | rfl <;> rfl
set_option maxRecDepth 100000 in
set_option maxHeartbeats 4000000 in
theorem lawMakes_some (base level low next first : Int) {w : World} {ad : Addr} {cap : Nat} {l : List (Int × Int)} (h : EntAt w (.slice (some ad) l.length cap) l) (hc : ∀ j u, (flatE l)[j]? = some u → w.cell? (ad.add j) = some u) (hl : l.length ≤ 20) (T : Pow w) :
    Calls Tryd.prog 3 #[.int .u64 base, .int .i64 level, .int .u64 low, .int .u64 next, .int .u64 first, .slice (some ad) l.length cap] w fun e w' => e = .returned (.bool true) ∧ Below w.heap.size w w' := by
  obtain ⟨i0, hi, hz0, hz1, hz2⟩ := info_parts infoEntry
  have HH := Lib.hid h
  have HC := Lib.hid hc
  have HT := Lib.hid T
  obtain ⟨R, hR⟩ : ∃ R, R = makeR base level low next first l := ⟨_, rfl⟩
  have HR := Lib.hid hR
  have HL := Lib.hid hl
  obtain ⟨m, hm⟩ : ∃ m, m = l.length := ⟨_, rfl⟩
  have HM := Lib.hid hm
  have hm20 : m ≤ 20 := by omega
  have HM20 := Lib.hid hm20
  have d1 : decide (20 < m) = false := by simp; omega
  have d2 : decide ((20 : Int) < (m : Int)) = false := by simp; omega
  rw [← hm] at HH ⊢
  have HFL := Lib.hid (show (flatE l).length = m * 2 by rw [hm, flatE_len]; omega)
  clear h hc T hR hl hm hm20
  go_enter Tryd.func3, Tryd.ntmps3
  go_wp2_with (at_builtin; refine wpList_append_own _ rfl _ _ 24 rfl w.heap.size 41 i0 (.agg #[.int .u64 0, .int .u64 0]) 2 16 Tryd.underlying24 hi hz0 hz1 hz2 rfl (by decide) (.slice none 0 0) 0 [] rfl (World.ownsRow_nil _ _ _ _) ad m cap (flatE l) rfl HFL.out HC.out (flatE_one l) ?q1 ?q2 (Nat.le_refl _) ?_)
  case q1 => have := HM20.out; unfold maxLen; omega
  case q2 => have := HM20.out; omega
  intro v' w1 hown hgrow _
  have hb1 : Below w.heap.size w w1 := (Below.refl _ w).grown hgrow (Nat.le_refl _) (fun k hk => by cases hk)
  rw [HM.out] at hown
  have he1 := ent_own hown
  obtain ⟨A1, c1, hv1, hA1⟩ := he1
  subst hv1
  have he1 : EntAt w1 (.slice A1 l.length c1) l := ⟨A1, c1, rfl, hA1⟩
  have HMK := Lib.hid (nMake_any base level low next first he1 (by have := HL.out; omega))
  have HRK := Lib.hid fun (W : World) (hb : Below w1.heap.size w1 W) => r8Make_any base level low next first ((HH.out.low hb1).low hb) (by have := HL.out; omega)
  have HE1 := Lib.hid he1
  have HB1 := Lib.hid hb1
  have HH1 := Lib.hid (HH.out.low hb1)
  rw [← HR.out, ← HM.out] at HMK
  rw [← HR.out] at HRK
  rw [← HM.out] at HE1 ⊢
  clear hown hgrow hb1 hA1 he1 HFL HC
  go_wp2_with fail
  refine HMK.out.mono ?_
  rintro e w2 ⟨rfl, hb2⟩
  have HB2 := Lib.hid hb2
  have HRK2 := Lib.hid (HRK.out _ hb2)
  clear HMK hb2
  obtain ⟨n, E⟩ := R
  dsimp only at HRK HRK2 ⊢
  have hnq := fun W => neq_node n W
  by_cases hE : E = 0
  · obtain ⟨n', hn', hmay, hes, hinv, hlen⟩ := make_has (base := base) (level := level) (low := low) (next := next) (first := first) (l := l) (by rw [← HR.out]; exact hE)
    rw [← HR.out] at hn'
    obtain ⟨rfl, rfl⟩ := Prod.mk.inj hn'
    have HMy := Lib.hid fun W => (show Calls Tryd.prog 8 #[n.V, .int .u64 0, .bool false] W fun e w' => e = .returned (.bool true) ∧ Below W.heap.size W w' from by rw [← hmay]; exact nMay_any n 0 false W)
    have HIv := Lib.hid fun W => (show Calls Tryd.prog 10 #[n.V] W fun e w' => e = .returned (.int .i64 (-1)) ∧ Below W.heap.size W w' from by rw [← hinv]; exact nInv_any n W)
    have HLn := Lib.hid fun W => (show Calls Tryd.prog 11 #[n.V] W fun e w' => e = .returned (.int .i64 (m : Int)) ∧ Below W.heap.size W w' from by
      have := len_any n W
      rw [hlen, ← HM.out] at this
      exact this)
    have HVa := Lib.hid fun W => nValid_any n W
    have HES := Lib.hid hes
    clear hn' hmay hes hinv hlen
    go_wp2_with (first
      | ((with_reducible refine show_storeK ?_); refine wpList_store_row rfl _ _ _ rfl w2.heap.size n.cl rfl rfl (Row.new w2 29 zeroNd.cl.toArray) rfl ndI (cl_one _) ?_; obtain ⟨W3, hW3, hn3, hb3⟩ := store_genK w2 n; rw [← hW3]; have HN3 := Lib.hid hn3; have HB3 := Lib.hid (low_and HB2.out hb3); clear hW3 hn3 hb3)
      | (go_at_call 6; refine (HRK.out _ HB3.out).mono ?_; rintro e w4 ⟨rfl, hb4⟩; have HN4 := Lib.hid (HN3.out.below hb4 HN3.out.lt); have HB4 := Lib.hid (low_and HB3.out hb4); clear hb4)
      | ((with_reducible refine show_storeK ?_); refine wpList_store_row rfl _ _ _ rfl w4.heap.size n.cl rfl rfl (Row.new w4 29 zeroNd.cl.toArray) rfl ndI (cl_one _) ?_; obtain ⟨W5, hW5, hn5, hb5⟩ := store_genK w4 n; rw [← hW5]; have HM5 := Lib.hid hn5; have HN5 := Lib.hid (HN4.out.below hb5 HN4.out.lt); have HB5 := Lib.hid (low_and HB4.out hb5); clear hW5 hn5 hb5)
      | ((with_reducible refine show_loadK ?_); refine load_mgK (by rfl) _ _ rfl w2.heap.size 0 rfl n.cl _ (ndR HN5.out) Tryd.underlying29 rfl ndI ?_)
      | ((with_reducible refine show_loadK ?_); refine load_mgK (by rfl) _ _ rfl w4.heap.size 0 rfl n.cl _ (ndR HM5.out) Tryd.underlying29 rfl ndI ?_))
    refine (same_isK (HE1.out.low HB5.out) (HH1.out.low HB5.out) (by have := HL.out; omega) (by have := HL.out; omega) rfl).mono ?_
    rintro e w6 ⟨rfl, hb6⟩
    have HN6 := Lib.hid (HN5.out.below hb6 HN5.out.lt)
    have HB6 := Lib.hid (low_and HB5.out hb6)
    clear hb6 hnq HN3 HN4 HN5 HM5 HB3 HB4 HB5
    go_wp2_with (first
      | ((with_reducible refine show_loadK ?_); refine load_mgK (by rfl) _ _ rfl w2.heap.size 0 rfl n.cl _ (ndR HN10.out) Tryd.underlying29 rfl ndI ?_)
      | ((with_reducible refine show_loadK ?_); refine load_mgK (by rfl) _ _ rfl w2.heap.size 0 rfl n.cl _ (ndR HN9.out) Tryd.underlying29 rfl ndI ?_)
      | ((with_reducible refine show_loadK ?_); refine load_mgK (by rfl) _ _ rfl w2.heap.size 0 rfl n.cl _ (ndR HN8.out) Tryd.underlying29 rfl ndI ?_)
      | ((with_reducible refine show_loadK ?_); refine load_mgK (by rfl) _ _ rfl w2.heap.size 0 rfl n.cl _ (ndR HN7.out) Tryd.underlying29 rfl ndI ?_)
      | ((with_reducible refine show_loadK ?_); refine load_mgK (by rfl) _ _ rfl w2.heap.size 0 rfl n.cl _ (ndR HN6.out) Tryd.underlying29 rfl ndI ?_)
      | (go_at_call 8; refine (HMy.out _).mono ?_; rintro e w7 ⟨rfl, hb7⟩; have HN7 := Lib.hid (HN6.out.below hb7 HN6.out.lt); have HB7 := Lib.hid (low_and HB6.out hb7); clear hb7)
      | (go_at_call 9; refine (HVa.out _).mono ?_; rintro e w8 ⟨⟨v8, rfl, ho8⟩, hb8⟩; rw [HES.out] at ho8; have hv8 := ent_own ho8; have HV8 := Lib.hid hv8; have HN8 := Lib.hid (HN7.out.below hb8 HN7.out.lt); have HB8 := Lib.hid (low_and HB7.out hb8); clear hb8 ho8 hv8)
      | (go_at_call 7; refine (same_isK HV8.out (HH1.out.low HB8.out) (by have := HL.out; omega) (by have := HL.out; omega) rfl).mono ?_; rintro e w9 ⟨rfl, hb9⟩; have HN9 := Lib.hid (HN8.out.below hb9 HN8.out.lt); have HB9 := Lib.hid (low_and HB8.out hb9); clear hb9)
      | (go_at_call 10; refine (HIv.out _).mono ?_; rintro e w10 ⟨rfl, hb10⟩; have HN10 := Lib.hid (HN9.out.below hb10 HN9.out.lt); have HB10 := Lib.hid (low_and HB9.out hb10); clear hb10)
      | (go_at_call 11; refine (HLn.out _).mono ?_; rintro e w11 ⟨rfl, hb11⟩; have HB11 := Lib.hid (low_and HB10.out hb11); clear hb11)
      | (go_at_call 4; refine (n8known_any _ (pow_low HT.out (low_and HB1.out HB11.out))).mono ?_; rintro e w12 ⟨rfl, hb12⟩; have HB12 := Lib.hid (low_and HB11.out hb12); clear hb12))
    go_ret
    exact ⟨rfl, low_and HB1.out HB12.out⟩
  · have hE2 : (E != 0) = true := by simpa using hE
    clear hE
    go_wp2_with (first
      | ((with_reducible refine show_storeK ?_); refine wpList_store_row rfl _ _ _ rfl w2.heap.size n.cl rfl rfl (Row.new w2 29 zeroNd.cl.toArray) rfl ndI (cl_one _) ?_; obtain ⟨W3, hW3, hn3, hb3⟩ := store_genK w2 n; rw [← hW3]; have HN3 := Lib.hid hn3; have HB3 := Lib.hid (low_and HB2.out hb3); clear hW3 hn3 hb3)
      | (go_at_call 6; refine (HRK.out _ HB3.out).mono ?_; rintro e w4 ⟨rfl, hb4⟩; have HN4 := Lib.hid (HN3.out.below hb4 HN3.out.lt); have HB4 := Lib.hid (low_and HB3.out hb4); clear hb4)
      | ((with_reducible refine show_storeK ?_); refine wpList_store_row rfl _ _ _ rfl w4.heap.size n.cl rfl rfl (Row.new w4 29 zeroNd.cl.toArray) rfl ndI (cl_one _) ?_; obtain ⟨W5, hW5, hn5, hb5⟩ := store_genK w4 n; rw [← hW5]; have HM5 := Lib.hid hn5; have HN5 := Lib.hid (HN4.out.below hb5 HN4.out.lt); have HB5 := Lib.hid (low_and HB4.out hb5); clear hW5 hn5 hb5)
      | ((with_reducible refine show_loadK ?_); refine load_mgK (by rfl) _ _ rfl w2.heap.size 0 rfl n.cl _ (ndR HN5.out) Tryd.underlying29 rfl ndI ?_)
      | ((with_reducible refine show_loadK ?_); refine load_mgK (by rfl) _ _ rfl w4.heap.size 0 rfl n.cl _ (ndR HM5.out) Tryd.underlying29 rfl ndI ?_))
    refine (same_isK (HE1.out.low HB5.out) (HH1.out.low HB5.out) (by have := HL.out; omega) (by have := HL.out; omega) rfl).mono ?_
    rintro e w6 ⟨rfl, hb6⟩
    have HB6 := Lib.hid (low_and HB5.out hb6)
    clear hb6 hnq HN3 HN4 HN5 HM5 HB3 HB4 HB5
    go_wp2_with fail
    refine (n8known_any _ (pow_low HT.out (low_and HB1.out HB6.out))).mono ?_
    rintro e w12 ⟨rfl, hb12⟩
    have HB12 := Lib.hid (low_and HB6.out hb12)
    clear hb12
    go_wp2
    go_ret
    exact ⟨rfl, low_and HB1.out HB12.out⟩
set_option maxRecDepth 100000 in
set_option maxHeartbeats 4000000 in
theorem lawMakes_none (base level low next first : Int) {w : World} (T : Pow w) :
    Calls Tryd.prog 3 #[.int .u64 base, .int .i64 level, .int .u64 low, .int .u64 next, .int .u64 first, .slice none 0 0] w fun e w' => e = .returned (.bool true) ∧ Below w.heap.size w w' := by
  have h : EntAt w (.slice none 0 0) [] := ⟨none, 0, rfl, fun h0 => absurd h0 (by decide)⟩
  have HH := Lib.hid h
  have HT := Lib.hid T
  obtain ⟨R, hR⟩ : ∃ R, R = makeR base level low next first [] := ⟨_, rfl⟩
  have HR := Lib.hid hR
  have HL := Lib.hid (show ([] : List (Int × Int)).length ≤ 20 by decide)
  have HMK := Lib.hid (nMake_any base level low next first h (by decide))
  have HRK := Lib.hid fun (W : World) (hb : Below w.heap.size w W) => r8Make_any base level low next first (h.low hb) (by decide)
  have HE1 := Lib.hid h
  have HB1 := Lib.hid (Below.refl w.heap.size w)
  have HH1 := Lib.hid h
  rw [← HR.out] at HMK HRK
  clear h T hR
  go_enter Tryd.func3, Tryd.ntmps3
  go_wp2_with fail
  refine HMK.out.mono ?_
  rintro e w2 ⟨rfl, hb2⟩
  have HB2 := Lib.hid hb2
  have HRK2 := Lib.hid (HRK.out _ hb2)
  clear HMK hb2
  obtain ⟨n, E⟩ := R
  dsimp only at HRK HRK2 ⊢
  have hnq := fun W => neq_node n W
  by_cases hE : E = 0
  · obtain ⟨n', hn', hmay, hes, hinv, hlen⟩ := make_has (base := base) (level := level) (low := low) (next := next) (first := first) (l := []) (by rw [← HR.out]; exact hE)
    rw [← HR.out] at hn'
    obtain ⟨rfl, rfl⟩ := Prod.mk.inj hn'
    have HMy := Lib.hid fun W => (show Calls Tryd.prog 8 #[n.V, .int .u64 0, .bool false] W fun e w' => e = .returned (.bool true) ∧ Below W.heap.size W w' from by rw [← hmay]; exact nMay_any n 0 false W)
    have HIv := Lib.hid fun W => (show Calls Tryd.prog 10 #[n.V] W fun e w' => e = .returned (.int .i64 (-1)) ∧ Below W.heap.size W w' from by rw [← hinv]; exact nInv_any n W)
    have HLn := Lib.hid fun W => (show Calls Tryd.prog 11 #[n.V] W fun e w' => e = .returned (.int .i64 0) ∧ Below W.heap.size W w' from by
      have := len_any n W
      rw [hlen] at this
      exact this)
    have HVa := Lib.hid fun W => nValid_any n W
    have HES := Lib.hid hes
    clear hn' hmay hes hinv hlen
    go_wp2_with (first
      | ((with_reducible refine show_storeK ?_); refine wpList_store_row rfl _ _ _ rfl w2.heap.size n.cl rfl rfl (Row.new w2 29 zeroNd.cl.toArray) rfl ndI (cl_one _) ?_; obtain ⟨W3, hW3, hn3, hb3⟩ := store_genK w2 n; rw [← hW3]; have HN3 := Lib.hid hn3; have HB3 := Lib.hid (low_and HB2.out hb3); clear hW3 hn3 hb3)
      | (go_at_call 6; refine (HRK.out _ HB3.out).mono ?_; rintro e w4 ⟨rfl, hb4⟩; have HN4 := Lib.hid (HN3.out.below hb4 HN3.out.lt); have HB4 := Lib.hid (low_and HB3.out hb4); clear hb4)
      | ((with_reducible refine show_storeK ?_); refine wpList_store_row rfl _ _ _ rfl w4.heap.size n.cl rfl rfl (Row.new w4 29 zeroNd.cl.toArray) rfl ndI (cl_one _) ?_; obtain ⟨W5, hW5, hn5, hb5⟩ := store_genK w4 n; rw [← hW5]; have HM5 := Lib.hid hn5; have HN5 := Lib.hid (HN4.out.below hb5 HN4.out.lt); have HB5 := Lib.hid (low_and HB4.out hb5); clear hW5 hn5 hb5)
      | ((with_reducible refine show_loadK ?_); refine load_mgK (by rfl) _ _ rfl w2.heap.size 0 rfl n.cl _ (ndR HN5.out) Tryd.underlying29 rfl ndI ?_)
      | ((with_reducible refine show_loadK ?_); refine load_mgK (by rfl) _ _ rfl w4.heap.size 0 rfl n.cl _ (ndR HM5.out) Tryd.underlying29 rfl ndI ?_))
    refine (same_isK (HE1.out.low HB5.out) (HH1.out.low HB5.out) (by have := HL.out; omega) (by have := HL.out; omega) rfl).mono ?_
    rintro e w6 ⟨rfl, hb6⟩
    have HN6 := Lib.hid (HN5.out.below hb6 HN5.out.lt)
    have HB6 := Lib.hid (low_and HB5.out hb6)
    clear hb6 hnq HN3 HN4 HN5 HM5 HB3 HB4 HB5
    go_wp2_with (first
      | ((with_reducible refine show_loadK ?_); refine load_mgK (by rfl) _ _ rfl w2.heap.size 0 rfl n.cl _ (ndR HN10.out) Tryd.underlying29 rfl ndI ?_)
      | ((with_reducible refine show_loadK ?_); refine load_mgK (by rfl) _ _ rfl w2.heap.size 0 rfl n.cl _ (ndR HN9.out) Tryd.underlying29 rfl ndI ?_)
      | ((with_reducible refine show_loadK ?_); refine load_mgK (by rfl) _ _ rfl w2.heap.size 0 rfl n.cl _ (ndR HN8.out) Tryd.underlying29 rfl ndI ?_)
      | ((with_reducible refine show_loadK ?_); refine load_mgK (by rfl) _ _ rfl w2.heap.size 0 rfl n.cl _ (ndR HN7.out) Tryd.underlying29 rfl ndI ?_)
      | ((with_reducible refine show_loadK ?_); refine load_mgK (by rfl) _ _ rfl w2.heap.size 0 rfl n.cl _ (ndR HN6.out) Tryd.underlying29 rfl ndI ?_)
      | (go_at_call 8; refine (HMy.out _).mono ?_; rintro e w7 ⟨rfl, hb7⟩; have HN7 := Lib.hid (HN6.out.below hb7 HN6.out.lt); have HB7 := Lib.hid (low_and HB6.out hb7); clear hb7)
      | (go_at_call 9; refine (HVa.out _).mono ?_; rintro e w8 ⟨⟨v8, rfl, ho8⟩, hb8⟩; rw [HES.out] at ho8; have hv8 := ent_own ho8; have HV8 := Lib.hid hv8; have HN8 := Lib.hid (HN7.out.below hb8 HN7.out.lt); have HB8 := Lib.hid (low_and HB7.out hb8); clear hb8 ho8 hv8)
      | (go_at_call 7; refine (same_isK HV8.out (HH1.out.low HB8.out) (by have := HL.out; omega) (by have := HL.out; omega) rfl).mono ?_; rintro e w9 ⟨rfl, hb9⟩; have HN9 := Lib.hid (HN8.out.below hb9 HN8.out.lt); have HB9 := Lib.hid (low_and HB8.out hb9); clear hb9)
      | (go_at_call 10; refine (HIv.out _).mono ?_; rintro e w10 ⟨rfl, hb10⟩; have HN10 := Lib.hid (HN9.out.below hb10 HN9.out.lt); have HB10 := Lib.hid (low_and HB9.out hb10); clear hb10)
      | (go_at_call 11; refine (HLn.out _).mono ?_; rintro e w11 ⟨rfl, hb11⟩; have HB11 := Lib.hid (low_and HB10.out hb11); clear hb11)
      | (go_at_call 4; refine (n8known_any _ (pow_low HT.out (low_and HB1.out HB11.out))).mono ?_; rintro e w12 ⟨rfl, hb12⟩; have HB12 := Lib.hid (low_and HB11.out hb12); clear hb12))
    go_ret
    exact ⟨rfl, low_and HB1.out HB12.out⟩
  · have hE2 : (E != 0) = true := by simpa using hE
    clear hE
    go_wp2_with (first
      | ((with_reducible refine show_storeK ?_); refine wpList_store_row rfl _ _ _ rfl w2.heap.size n.cl rfl rfl (Row.new w2 29 zeroNd.cl.toArray) rfl ndI (cl_one _) ?_; obtain ⟨W3, hW3, hn3, hb3⟩ := store_genK w2 n; rw [← hW3]; have HN3 := Lib.hid hn3; have HB3 := Lib.hid (low_and HB2.out hb3); clear hW3 hn3 hb3)
      | (go_at_call 6; refine (HRK.out _ HB3.out).mono ?_; rintro e w4 ⟨rfl, hb4⟩; have HN4 := Lib.hid (HN3.out.below hb4 HN3.out.lt); have HB4 := Lib.hid (low_and HB3.out hb4); clear hb4)
      | ((with_reducible refine show_storeK ?_); refine wpList_store_row rfl _ _ _ rfl w4.heap.size n.cl rfl rfl (Row.new w4 29 zeroNd.cl.toArray) rfl ndI (cl_one _) ?_; obtain ⟨W5, hW5, hn5, hb5⟩ := store_genK w4 n; rw [← hW5]; have HM5 := Lib.hid hn5; have HN5 := Lib.hid (HN4.out.below hb5 HN4.out.lt); have HB5 := Lib.hid (low_and HB4.out hb5); clear hW5 hn5 hb5)
      | ((with_reducible refine show_loadK ?_); refine load_mgK (by rfl) _ _ rfl w2.heap.size 0 rfl n.cl _ (ndR HN5.out) Tryd.underlying29 rfl ndI ?_)
      | ((with_reducible refine show_loadK ?_); refine load_mgK (by rfl) _ _ rfl w4.heap.size 0 rfl n.cl _ (ndR HM5.out) Tryd.underlying29 rfl ndI ?_))
    refine (same_isK (HE1.out.low HB5.out) (HH1.out.low HB5.out) (by have := HL.out; omega) (by have := HL.out; omega) rfl).mono ?_
    rintro e w6 ⟨rfl, hb6⟩
    have HB6 := Lib.hid (low_and HB5.out hb6)
    clear hb6 hnq HN3 HN4 HN5 HM5 HB3 HB4 HB5
    go_wp2_with fail
    refine (n8known_any _ (pow_low HT.out (low_and HB1.out HB6.out))).mono ?_
    rintro e w12 ⟨rfl, hb12⟩
    have HB12 := Lib.hid (low_and HB6.out hb12)
    clear hb12
    go_wp2
    go_ret
    exact ⟨rfl, low_and HB1.out HB12.out⟩
set_option maxRecDepth 100000 in
theorem lawMakes_many (base level low next first : Int) {w : World} {A : Option Addr} {m cap : Nat} (hm : 20 < m) (hx : m ≤ maxLen) (T : Pow w) :
    Calls Tryd.prog 3 #[.int .u64 base, .int .i64 level, .int .u64 low, .int .u64 next, .int .u64 first, .slice A m cap] w fun e w' => e = .returned (.bool true) ∧ Below w.heap.size w w' := by
  unfold maxLen at hx
  have HK := Lib.hid (n8known_any w T)
  have d1 : decide (20 < m) = true := by simpa using hm
  have d2 : decide ((20 : Int) < (m : Int)) = true := by simp; omega
  clear T hm
  go_enter Tryd.func3, Tryd.ntmps3
  go_wp2_with fail
  refine HK.out.mono ?_
  rintro e w1 ⟨rfl, hb⟩
  have HB := Lib.hid hb
  clear hb
  go_wp2
  go_ret
  exact ⟨rfl, HB.out⟩
end Go.Proofs.YthcopnnpedhboaaDoor
