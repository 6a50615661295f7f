/- The document's set of addresses: Take and Drop; its lists that read alike. -/
import Derived.Test.Ytpdnbojooelmfaa5Put
import Derived.Test.YtpdnbojooelmfaaHRd
namespace Go.Proofs.Ytpdnbojooelmfaa
open Go Go.RowKit
set_option linter.unusedVariables false
theorem wpList_appA {ops : Array Oper} {rest : List Oper} {o : Oper} {a : Act} {w : World} {Q : Exit → Act → World → Prop} (hgd : o.guard = none) (s x : Operand)
    (ho : o.op = .call { callee := .builtin .append, args := #[s, x], argTypes := #[22, 22] }) (B : Nat) (V : Value) (n : Nat) (xs : List Value) (hs : a.eval s = V) (hown : w.ownsRow B 32 1 V n xs) (X : Value) (news : List Value) (hx : a.eval x = X) (hrd : RdsA w X news) (h1 : ∀ u ∈ news, u.oneCell' = true) (hn : n + news.length ≤ 1000000) (hB : B ≤ w.heap.size)
    (h : ∀ v' w', w'.ownsRow B 32 1 v' (n + news.length) (xs ++ news) → w.grownBy w' V.ownBlock → wpList Try.prog ops Q rest (a.put o.dst v') w') : wpList Try.prog ops Q (o :: rest) a w := by
  refine wpList_plain hgd fun K hK => ?_
  have hw : Region.wanted o (yielded ops a.tmps) = true := by unfold Region.wanted; rw [hgd]
  have := step_appA (Q := Q) (K := K) (E := True) hw s x ho B V n xs hs hown X news hx hrd h1 hn hB (fun v' w' h2 h3 => hK _ _ (h v' w' h2 h3))
  rwa [if_pos hw] at this
theorem aTake_none {w : World} {B gs : Nat} {vL : Value} (h : AdAt w B gs [] vL) : Calls Try.prog 10 #[.pointer (some ⟨gs, 0, none⟩)] w fun e w' => e = .returned (.tuple #[.int .u64 0, .bool false]) ∧ w = w' := by
  obtain ⟨A, c, rfl⟩ := h.sl
  have c0 : w.cell? ⟨gs, 0, none⟩ = some (.slice A 0 c) := h.c0
  clear h
  go_enter Try.func10, Try.ntmps10
  go_wp2
  go_ret2
  exact ⟨rfl, rfl⟩
set_option maxRecDepth 100000 in
set_option maxHeartbeats 1600000 in
theorem aTake_any {w : World} {B gs a : Nat} {t : List Nat} {vL : Value} (h : AdAt w B gs (a :: t) vL) (hL : t.length ≤ 1000) (hB : B ≤ w.heap.size) :
    Calls Try.prog 10 #[.pointer (some ⟨gs, 0, none⟩)] w fun e w' => e = .returned (.tuple #[wv a, .bool true]) ∧ AdLeft w B gs t w' := by
  obtain ⟨A, c, rfl⟩ := h.sl
  have c0 : w.cell? ⟨gs, 0, none⟩ = some (.slice A (t.length + 1) c) := h.c0
  obtain ⟨g, rfl, ca⟩ := h.cell (j := 0) (by simp)
  have ca : w.cell? ⟨g, 0, none⟩ = some (.int .u64 (a : Int)) := ca
  obtain ⟨AY, mY, cY, AX, mX, cX, sY, sX, hcut⟩ := own_cut h.li (j := 1) (by simp)
  have hX : RdsA w (.slice AX mX cX) (t.map wv) := (hcut w (Below.refl _ _)).2
  have sX1 : ∀ W, (Instr.slice 22 (.slice (some ⟨g, 0, none⟩) (t.length + 1) c) (some (.int .i64 1)) none none).run Try.prog W = .ok (.slice AX mX cX) W := sX
  have HX := Lib.hid (And.intro hX (wv_one t))
  have HH := Lib.hid h
  have HB := Lib.hid hB
  have hz : (((t.length : Nat) : Int) + 1 == 0) = false := by rw [Bool.eq_false_iff]; intro h; have := beq_iff_eq.1 h; omega
  obtain ⟨n, hn⟩ : ∃ n, n = t.length := ⟨_, rfl⟩
  have HN := Lib.hid (show (t.map wv).length = n by rw [hn]; simp)
  rw [← hn] at c0 sX1 hz hL
  have hz2 : (((n + 1 : Nat) : Int) == 0) = false := by rw [Bool.eq_false_iff]; intro h; have := beq_iff_eq.1 h; omega
  have hp1 : (0 : Int) < ((n + 1 : Nat) : Int) := by omega
  clear h hB hcut sY sX hX hn
  unfold wv
  go_enter Try.func10, Try.ntmps10
  go_wp2_with (at_builtin; refine wpList_appA rfl _ _ rfl w.heap.size _ 0 [] rfl (World.ownsRow_nil _ _ _ _) _ _ rfl HX.out.1 HX.out.2 (by have := HN.out; omega) (Nat.le_refl _) ?_)
  intro v' w2 hown hgrow
  have L2 : Below w.heap.size w w2 := (Below.refl _ w).grown hgrow (Nat.le_refl _) (fun q hq => by cases hq)
  have HS := Lib.hid (ad_store (L' := t) HH.out L2 hown (by simp) (by simp) HB.out (Nat.le_refl _))
  have cd : w2.cell? ⟨gs, 0, none⟩ = some (.slice (some ⟨g, 0, none⟩) (n + 1) c) := (L2.cell (p := ⟨gs, 0, none⟩) (w.block_lt_of_cell? _ c0)).trans c0
  have fd : w2.frozen? ⟨gs, 0, none⟩ = false := (HH.out.row.below L2 HH.out.row.lt).free 0
  obtain ⟨Ad, cd2, nd, rfl⟩ : ∃ Ad cd2 nd, v' = .slice Ad nd cd2 := by
    rcases hown.2 with ⟨rfl, h0⟩ | ⟨g, cap, cur, rfl, _⟩
    · exact ⟨none, 0, 0, rfl⟩
    · exact ⟨_, _, _, rfl⟩
  clear hown hgrow L2 c0 ca
  go_wp2
  go_ret2
  exact ⟨rfl, HS.out⟩
theorem filt_next {L : List Nat} {a i : Nat} (hi : i < L.length) : (L.take (i + 1)).filter (fun y => y != a) = (L.take i).filter (fun y => y != a) ++ (if gd L i = a then [] else [gd L i]) := by
  have hg : gd L i = L[i] := by simp [gd, hi]
  rw [List.take_succ_eq_append_getElem hi, List.filter_append, hg]
  by_cases h : L[i] = a <;> simp [h]
set_option maxRecDepth 100000 in
set_option maxHeartbeats 3200000 in
theorem aDrop_any {w : World} {B gs : Nat} {L : List Nat} {vL : Value} (h : AdAt w B gs L vL) (hL : L.length ≤ 1000) (hB : B ≤ w.heap.size) (a : Nat) :
    Calls Try.prog 12 #[.pointer (some ⟨gs, 0, none⟩), wv a] w fun e w' => e = .returned (.bool (decide (a ∈ L))) ∧ AdLeft w B gs (L.filter (fun y => y != a)) w' := by
  have HHas := Lib.hid (aHas_any h hL a)
  generalize decide (a ∈ L) = bb at HHas ⊢
  obtain ⟨A, c, rfl⟩ := h.sl
  have c0 := h.c0
  have HH := Lib.hid h
  have HB := Lib.hid hB
  obtain ⟨n, hn⟩ : ∃ n, n = L.length := ⟨_, rfl⟩
  have HN := Lib.hid hn
  rw [← hn] at c0 hL
  have C0 := Lib.hid c0
  unfold wv at HHas ⊢
  clear h hn hB
  go_enter Try.func12, Try.ntmps12
  go_wp2_with fail
  refine HHas.out.mono ?_
  rintro e w1 ⟨rfl, rfl⟩
  go_wp2
  clear c0
  go_loopw [6, 7] (fun V v wr => ∃ (i : Nat) (VV : Value), VV = V ∧ v = .int .i64 (i : Int) ∧ i ≤ n ∧ wr.ownsRow w.heap.size 32 1 V ((L.take i).filter (fun y => y != a)).length (((L.take i).filter (fun y => y != a)).map wv) ∧ Below w.heap.size w wr) (fun _ v _ => n - (intOf v).toNat)
  case atStart => exact ⟨0, _, rfl, rfl, Nat.zero_le _, World.ownsRow_nil _ _ _ _, Below.refl _ _⟩
  case round =>
    rename World => wr
    obtain ⟨i, V, hVV, rfl, hi, ho, hb⟩ := hrel
    subst hVV
    have HO := Lib.hid ho
    have HBL := Lib.hid hb
    have c0 := (hb.cell (p := ⟨gs, 0, none⟩) (w.block_lt_of_cell? _ C0.out)).trans C0.out
    clear ho hb
    by_cases hlt : i < n
    · have hil : i < L.length := by rw [← HN.out]; exact hlt
      obtain ⟨g, rfl, ci⟩ := (HH.out.below HBL.out).cell hil
      have hiI : (i : Int) < (n : Int) := by omega
      have hfn := filt_next (a := a) hil
      have hfl : ((L.take i).filter (fun y => y != a)).length ≤ i := Nat.le_trans (List.length_filter_le _ _) (by simp; omega)
      by_cases he : gd L i = a
      · rw [if_pos he, List.append_nil] at hfn
        have HE := Lib.hid (show wr.ownsRow w.heap.size 32 1 V ((L.take (i + 1)).filter (fun y => y != a)).length (((L.take (i + 1)).filter (fun y => y != a)).map wv) by rw [hfn]; exact HO.out)
        rw [he] at ci
        unfold wv at ci
        have hq : ((a : Int) != (a : Int)) = false := by simp
        clear he hil hfn hfl
        go_wp2
        exact ⟨⟨i + 1, V, rfl, by go_num, by omega, HE.out, HBL.out⟩, by simp [intOf]; omega⟩
      · rw [if_neg he] at hfn
        obtain ⟨x, hx⟩ : ∃ x, x = gd L i := ⟨_, rfl⟩
        rw [← hx] at ci he hfn
        have hq : ((x : Int) != (a : Int)) = true := by simpa using (fun e => he (by omega) : ¬ (x : Int) = (a : Int))
        have HFN := Lib.hid hfn
        obtain ⟨fl, hfl2⟩ : ∃ fl, fl = (L.take i).filter (fun y => y != a) := ⟨_, rfl⟩
        rw [← hfl2] at HFN hfl
        have HO2 := HO.out
        rw [← hfl2] at HO2
        have HO2 := Lib.hid HO2
        have hsz := HBL.out.size
        unfold wv at ci
        clear he hil hfn hfl2 hx HO
        go_wp2_with (at_builtin; refine wpList_appA rfl _ _ rfl w.heap.size _ fl.length (fl.map wv) rfl (own_lowA HO2.out (alloc_below _ _)) _ [.int .u64 (x : Int)] rfl (.inr ⟨⟨wr.heap.size, 0, none⟩, 1, rfl, fun j u hu => by rw [Addr.add_lit, Nat.zero_add, Row.cell (Row.new wr 32 #[.int .u64 (x : Int)])]; simpa using hu⟩) (by intro u hu; simp at hu; subst hu; rfl) (by simp; omega) (by simp; omega) ?_)
        intro v' w2 hown hgrow
        have HE := Lib.hid (show w2.ownsRow w.heap.size 32 1 v' ((L.take (i + 1)).filter (fun y => y != a)).length (((L.take (i + 1)).filter (fun y => y != a)).map wv) by
          rw [HFN.out]
          simpa [wv] using hown)
        have HB2 := Lib.hid ((HBL.out.alloc hsz _).grown hgrow (by simp; omega) (fun q hq => (own_fromA HO2.out q hq).1))
        clear hown hgrow ci
        go_wp2
        exact ⟨⟨i + 1, v', rfl, by go_num, by omega, HE.out, HB2.out⟩, by simp [intOf]; omega⟩
    · obtain rfl : i = n := by omega
      have hii : decide ((i : Int) < (i : Int)) = false := by simp
      have htk : L.take i = L := by rw [HN.out]; exact List.take_length
      have ho := HO.out
      rw [htk] at ho
      have HS := Lib.hid (ad_store (L' := L.filter (fun y => y != a)) HH.out HBL.out ho rfl rfl HB.out (Nat.le_refl _))
      have fd : wr.frozen? ⟨gs, 0, none⟩ = false := (HH.out.row.below HBL.out HH.out.row.lt).free 0
      obtain ⟨Ad, cd2, nd, rfl⟩ : ∃ Ad cd2 nd, V = .slice Ad nd cd2 := by
        rcases ho.2 with ⟨rfl, h0⟩ | ⟨g, cap, cur, rfl, _⟩
        · exact ⟨none, 0, 0, rfl⟩
        · exact ⟨_, _, _, rfl⟩
      clear ho htk
      go_wp2
      go_ret
      exact ⟨rfl, HS.out⟩
end Go.Proofs.Ytpdnbojooelmfaa
