/- Texts of this claim, packed: SnB, SnR. -/
import Derived.Test.YtaabdmlmemmnaaaPk22
import Derived.Test.YtaabdmlmemmnaaaPk24
import Derived.Test.YtaabdmlmemmnaaaPk25
/- What a snapshot's steps do: the first Count; for whatever the load answers. -/
namespace Go.Proofs.Ytaabdmlmemmnaaa
open Go.RowKit
set_option linter.unusedVariables false
attribute [local go_sem] Oper.semAt_some
/-- What a step's function leaves. -/
def FPost (g : Nat) (P : World → Prop) (k : Int) (R : Array Value → Prop) (e : Ending) (w' : World) : Prop := e = .returned (.int .i64 k) ∧ ∃ w1 cs', P w1 ∧ R cs' ∧ Sw w1 w' g cs'
/-- What a load leaves beside its answer. -/
def LQ (g : Nat) (cs : Array Value) (P : World → Prop) (w' : World) : Prop := Row w' g 81 cs ∧ P w'
/-- The readings behind the first Count. -/
def rBeg (v : Int) : Nat → Int := fun j => if j = 3 then v else 0
def vBeg (v : Int) : List Value := uw 0 :: uw 0 :: uw 0 :: uw v :: List.replicate 44 (uw 0)
theorem vBeg_len (v : Int) : (vBeg v).length = 48 := rfl
theorem vBeg_at (v : Int) (j : Nat) (hj : j < 48) : (vBeg v)[j]? = some (.int .u64 (rBeg v j)) := by
  unfold vBeg rBeg
  match j with
  | 0 => rfl
  | 1 => rfl
  | 2 => rfl
  | 3 => rfl
  | j + 4 =>
    rw [if_neg (by omega)]
    simp only [List.getElem?_cons_succ]
    rw [List.getElem?_replicate, if_pos (by omega)]
theorem vBeg_one (v : Int) : (vBeg v).toArray.all (·.oneCell') = true := all_oneCell_toArray fun u hu => by
  simp only [vBeg, List.mem_cons, List.mem_replicate] at hu
  rcases hu with rfl | rfl | rfl | rfl | ⟨_, rfl⟩ <;> rfl
theorem rowThere {w : World} {g : Nat} {t : TypeId} {cs : Array Value} (h : Row w g t cs) {o n : Nat} (hn : o + n ≤ cs.size) : w.there g o n := fun j hj => ⟨by rw [h.cell, Array.getElem?_eq_getElem (by omega)]; rfl, h.free _⟩
theorem r2I : (Try.prog.info? 79).map (·.size) = some 48 := by kernel_rfl
set_option maxRecDepth 100000 in
set_option maxHeartbeats 3200000 in
theorem snBegin_any {w : World} {g a : Nat} {cs : Array Value} {p : Option Addr} {F : Value} {d : Bool} {k wh wd lo v kk : Int} {r : Nat → Int} {n : Nd} {P : World → Prop}
    (hr : Row w g 81 cs) (hs : IsS cs p F d k a r wh wd lo n) (ha : a < 18446744073709551616)
    (HL : ∀ W, Below w.heap.size w W → Calls Try.prog 24 #[.pointer p, .int .u64 ((wordAt a 3 : Nat) : Int)] W fun e' w' => e' = .returned (.tuple #[.int .u64 v, .int .i64 kk]) ∧ LQ g cs P w') :
    Calls Try.prog 35 #[.pointer (some ⟨g, 0, none⟩)] w (FPost g P kk (fun cs' => IsS cs' p (nextV 55 g) d k a (rBeg v) 0 0 lo n)) := by
  have mixed : Try.prog.follows .mixedOrders = true := by kernel_rfl
  have c0 := (hr.cell 0).trans hs.c0
  have c4 := (hr.cell 4).trans hs.c4
  have HDR := Lib.hid (drew_below w)
  have STAY := Lib.hid (show ∀ W, Below w.heap.size w W → W.cell? ⟨g, 4, none⟩ = some (.int .u64 (a : Int)) from fun W hb => (hr.below hb hr.lt).cell 4 |>.trans hs.c4)
  have STQ := Lib.hid (show ∀ W, Row W g 81 cs → W.cell? ⟨g, 4, none⟩ = some (.int .u64 (a : Int)) from fun W h => (h.cell 4).trans hs.c4)
  have HM := Lib.hid (macLoad_any (k := 3) ((drew_below w).cell (block_lt_of_cell c0) |>.trans c0) ha (by decide) (HL _ (drew_below w)))
  have HS := Lib.hid hs
  clear hr hs HL c0 c4 ha mixed
  go_enter Try.func35, Try.ntmps35
  go_wp2_with fail
  refine wp_region_held_drew (S := fun W' => W'.cell? ⟨g, 4, none⟩ = some (.int .u64 (a : Int))) (by kernel_rfl) (STAY.out _ HDR.out) (fun hHeld => ?_)
  refine wpAnyH_take (i := 0) (oi := ⟨some 6, _, _, _, _, _⟩) (v := .pointer (some ⟨g, 0, none⟩)) rfl (by kernel_rfl) (by kernel_rfl) (by kernel_rfl) (fun _ _ _ h => h) (Or.inl ⟨by rfl, by intro WW hSw; (try dsimp only at hSw); go_simp⟩) (by assumption) ?_
  (try simp only [Act.put, List.setIfInBounds_toArray, List.set_cons_zero, List.set_cons_succ])
  refine wpAnyH_take (i := 1) (oi := ⟨some 7, _, _, _, _, _⟩) (v := .pointer (some ⟨g, 0, none⟩)) rfl (by kernel_rfl) (by kernel_rfl) (by kernel_rfl) (fun _ _ _ h => h) (Or.inl ⟨by rfl, by intro WW hSw; (try dsimp only at hSw); go_simp⟩) (by assumption) ?_
  (try simp only [Act.put, List.setIfInBounds_toArray, List.set_cons_zero, List.set_cons_succ])
  refine wpAnyH_take (i := 2) (oi := ⟨some 8, _, _, _, _, _⟩) (v := .pointer (some ⟨g, 0, none⟩)) rfl (by kernel_rfl) (by kernel_rfl) (by kernel_rfl) (fun _ _ _ h => h) (Or.inl ⟨by rfl, by intro WW hSw; (try dsimp only at hSw); go_simp⟩) (by assumption) ?_
  (try simp only [Act.put, List.setIfInBounds_toArray, List.set_cons_zero, List.set_cons_succ])
  refine wpAnyH_take (i := 3) (oi := ⟨some 9, _, _, _, _, _⟩) (v := .pointer (some ⟨g, 0, none⟩)) rfl (by kernel_rfl) (by kernel_rfl) (by kernel_rfl) (fun _ _ _ h => h) (Or.inl ⟨by rfl, by intro WW hSw; (try dsimp only at hSw); go_simp⟩) (by assumption) ?_
  (try simp only [Act.put, List.setIfInBounds_toArray, List.set_cons_zero, List.set_cons_succ])
  refine wpAnyH_take (i := 4) (oi := ⟨some 10, _, _, _, _, _⟩) (v := .pointer (some ⟨g, 0, none⟩)) rfl (by kernel_rfl) (by kernel_rfl) (by kernel_rfl) (fun _ _ _ h => h) (Or.inl ⟨by rfl, by intro WW hSw; (try dsimp only at hSw); go_simp⟩) (by assumption) ?_
  (try simp only [Act.put, List.setIfInBounds_toArray, List.set_cons_zero, List.set_cons_succ])
  refine wpAnyH_take (i := 5) (oi := ⟨some 11, _, _, _, _, _⟩) (v := .pointer (some ⟨g, 4, none⟩)) rfl (by kernel_rfl) (by kernel_rfl) (by kernel_rfl) (fun _ _ _ h => h) (Or.inl ⟨by rfl, by intro WW hSw; (try dsimp only at hSw); go_simp⟩) (by assumption) ?_
  (try simp only [Act.put, List.setIfInBounds_toArray, List.set_cons_zero, List.set_cons_succ])
  refine wpAnyH_take (i := 6) (oi := ⟨some 12, _, _, _, _, _⟩) (v := .int .u64 (a : Int)) rfl (by kernel_rfl) (by kernel_rfl) (by kernel_rfl) (fun _ _ _ h => h) (Or.inl ⟨by rfl, by intro WW hSw; (try dsimp only at hSw); go_simp⟩) (by assumption) ?_
  (try simp only [Act.put, List.setIfInBounds_toArray, List.set_cons_zero, List.set_cons_succ])
  refine wpAnyH_one (i := 7) (oi := ⟨some 13, _, _, _, _, _⟩) rfl (by kernel_rfl) (fun K hK => ?_)
  refine step_calls (by rfl) 54 (fun args w => Try.call54 _ _) [.tmp 8, .tmp 12, .const (.int .i64 3)] _ rfl [.pointer (some ⟨g, 0, none⟩), .int .u64 (a : Int), .int .i64 3] rfl (HM.out) ?_
  rintro e w2 ⟨rfl, hq, hp⟩
  have HQ := Lib.hid hq
  have HP := Lib.hid hp
  clear hq hp HM
  refine ⟨_, rfl, hK _ _ (STQ.out _ HQ.out) (fun hSn => ?_)⟩
  clear hK K
  (try simp only [Act.put, List.setIfInBounds_toArray, List.set_cons_zero, List.set_cons_succ])
  refine wpAnyH_take (i := 8) (oi := ⟨some 5, _, _, _, _, _⟩) (v := .tuple #[.int .u64 v, .int .i64 kk]) rfl (by kernel_rfl) (by kernel_rfl) (by kernel_rfl) (fun _ _ _ h => h) (Or.inl ⟨by rfl, by intro WW hSw; (try dsimp only at hSw); go_simp⟩) (by assumption) ?_
  (try simp only [Act.put, List.setIfInBounds_toArray, List.set_cons_zero, List.set_cons_succ])
  refine wpAnyH_take (i := 9) (oi := ⟨some 14, _, _, _, _, _⟩) (v := .int .u64 v) rfl (by kernel_rfl) (by kernel_rfl) (by kernel_rfl) (fun _ _ _ h => h) (Or.inl ⟨by rfl, by intro WW hSw; (try dsimp only at hSw); go_simp⟩) (by assumption) ?_
  (try simp only [Act.put, List.setIfInBounds_toArray, List.set_cons_zero, List.set_cons_succ])
  refine wpAnyH_take (i := 10) (oi := ⟨some 15, _, _, _, _, _⟩) (v := .int .i64 kk) rfl (by kernel_rfl) (by kernel_rfl) (by kernel_rfl) (fun _ _ _ h => h) (Or.inl ⟨by rfl, by intro WW hSw; (try dsimp only at hSw); go_simp⟩) (by assumption) ?_
  (try simp only [Act.put, List.setIfInBounds_toArray, List.set_cons_zero, List.set_cons_succ])
  refine wpAnyH_take (i := 11) (oi := ⟨some 3, _, _, _, _, _⟩) (v := .int .u64 v) rfl (by kernel_rfl) (by kernel_rfl) (by kernel_rfl) (fun _ _ _ h => h) (Or.inl ⟨by rfl, by intro WW hSw; (try dsimp only at hSw); go_simp⟩) (by assumption) ?_
  (try simp only [Act.put, List.setIfInBounds_toArray, List.set_cons_zero, List.set_cons_succ])
  refine wpAnyH_take (i := 12) (oi := ⟨some 4, _, _, _, _, _⟩) (v := .int .i64 kk) rfl (by kernel_rfl) (by kernel_rfl) (by kernel_rfl) (fun _ _ _ h => h) (Or.inl ⟨by rfl, by intro WW hSw; (try dsimp only at hSw); go_simp⟩) (by assumption) ?_
  (try simp only [Act.put, List.setIfInBounds_toArray, List.set_cons_zero, List.set_cons_succ])
  refine wpAnyH_done (by kernel_rfl) ?_ _

  have hth := rowThere (o := 5) (n := 48) HQ.out (by rw [HS.out.sz]; omega)
  have SW := (Sw.refl HQ.out).setAll 5 (vBeg v)
  have IS := HS.out.rall (vBeg_len v) (fun j hj => vBeg_at v j hj)
  obtain ⟨W3, hW3⟩ : ∃ W3, W3 = w2.setCells g 5 (vBeg v) := ⟨_, rfl⟩
  rw [← hW3] at SW
  have c1 := (SW.row.cell 1).trans IS.c1
  have c53 := (SW.row.cell 53).trans IS.cw
  have c54 := (SW.row.cell 54).trans IS.cd
  have f1 := SW.row.free 1
  have f53 := SW.row.free 53
  have f54 := SW.row.free 54
  have HE := Lib.hid (show ∃ w1 cs', P w1 ∧ IsS cs' p (nextV 55 g) d k a (rBeg v) 0 0 lo n ∧ Sw w1 (((W3.setCell ⟨g, 53, none⟩ (.int .i64 0)).setCell ⟨g, 54, none⟩ (.int .i64 0)).setCell ⟨g, 1, none⟩ (.func (.func 55) #[.pointer (some ⟨g, 0, none⟩)] #[])) g cs' from
    ⟨w2, _, HP.out, ((IS.which 0).word 0).next _, ((SW.set 53 _).set 54 _).set 1 _⟩)
  have HT := Lib.hid hth
  have HW3 := Lib.hid hW3
  clear SW IS hth hW3
  go_wp2_with ((refine wpList_store_mid rfl _ _ _ rfl g 5 (vBeg v).toArray rfl rfl HT.out r2I (vBeg_one v) ?_); rw [← HW3.out])
  go_ret
  exact ⟨rfl, HE.out⟩
end Go.Proofs.Ytaabdmlmemmnaaa
/- What a snapshot's step does that reads the word that comes; for whatever the load answers. -/
namespace Go.Proofs.Ytaabdmlmemmnaaa
open Go.RowKit
set_option linter.unusedVariables false
attribute [local go_sem] Oper.semAt_some
/-- What a step that reads a word lets come next. -/
def rdF (F : Value) (g : Nat) (r : Nat → Int) (wh wd : Nat) (v : Int) : Value :=
  if (bh wd v).2 = true then F else if wh = 0 then F else if rput r (24 * wh + wd) v 26 = 0 then nextV 72 g else nextV 71 g
def rdWh (wh wd : Nat) (v : Int) : Nat := if (bh wd v).2 = true then wh else 1
theorem bh_no {k : Nat} {v : Int} (h : (bh k v).2 = false) : 9 ≤ k := by
  unfold bh at h
  split at h
  · cases h
  · split at h
    · cases h
    · split at h
      · rename_i h2
        rcases h2 with h2 | h2 <;> omega
      · cases h
/-- What lies in the snapshot's block behind the store of the word. -/
theorem rd_facts {w : World} {g wd : Nat} {cs : Array Value} {p : Option Addr} {F : Value} {d : Bool} {k a lo wz wdz : Int} {r : Nat → Int} {n : Nd}
    (hr : Row w g 81 cs) (hs : IsS cs p F d k a r wz wdz lo n) (hwd : wd < 24) : ∀ wh : Nat, wh ≤ 1 → ∀ q : LowBy w,
    (q.W.cell? ⟨g, 5 + 24 * wh + wd, none⟩ = some (.int .u64 (r (24 * wh + wd)))) ∧ (∀ i, q.W.frozen? ⟨g, i, none⟩ = false) ∧
    (∀ u, (q.W.setCell ⟨g, 5 + 24 * wh + wd, none⟩ u).cell? ⟨g, 54, none⟩ = some (.int .i64 wdz)) ∧ (∀ u, (q.W.setCell ⟨g, 5 + 24 * wh + wd, none⟩ u).cell? ⟨g, 53, none⟩ = some (.int .i64 wz)) ∧
    (∀ u, (q.W.setCell ⟨g, 5 + 24 * wh + wd, none⟩ u).cell? ⟨g, 1, none⟩ = some F) ∧
    (9 ≤ wd → ∀ u, (q.W.setCell ⟨g, 5 + 24 * wh + wd, none⟩ u).cell? ⟨g, 31, none⟩ = some (.int .u64 (r 26))) := by
  intro wh hwh q
  have hq := hr.below q.low hr.lt
  have ho : ∀ i, i ≠ 5 + 24 * wh + wd → ∀ u, (q.W.setCell ⟨g, 5 + 24 * wh + wd, none⟩ u).cell? ⟨g, i, none⟩ = cs[i]? := fun i hi u => by
    rw [World.cell?_setCell_other _ _ _ _ (by simp <;> omega)]
    exact hq.cell i
  refine ⟨(hq.cell _).trans ?_, fun i => hq.free i, fun u => (ho _ (by omega) u).trans hs.cd, fun u => (ho _ (by omega) u).trans hs.cw, fun u => (ho _ (by omega) u).trans hs.c1, fun h9 u => (ho _ (by omega) u).trans (hs.rr 26 (by omega))⟩
  rw [show 5 + 24 * wh + wd = 5 + (24 * wh + wd) by omega]
  exact hs.rr _ (by omega)
/-- The snapshot's cells behind the stores of a step that reads a word. -/
theorem rd_fin {w : World} {g wh wd : Nat} {cs : Array Value} {p : Option Addr} {F : Value} {d : Bool} {k a lo wz wdz : Int} {r : Nat → Int} {n : Nd} {P : World → Prop}
    (hr : Row w g 81 cs) (hs : IsS cs p F d k a r wz wdz lo n) (hwd : wd < 24) (hwh : wh ≤ 1) (hp : P w) (q : LowBy w) (v : Int) (b : Nat) :
    ∃ cs', P w ∧ IsS cs' p F d k a (rput r (24 * wh + wd) v) wz (b : Nat) lo n ∧ Sw w ((q.W.setCell ⟨g, 5 + 24 * wh + wd, none⟩ (.int .u64 v)).setCell ⟨g, 54, none⟩ (.int .i64 (b : Nat))) g cs' := by
  have h1 := hs.rset (i := 24 * wh + wd) (by omega) v
  refine ⟨_, hp, h1.word b, ?_⟩
  rw [show 5 + (24 * wh + wd) = 5 + 24 * wh + wd by omega]
  exact (((Sw.refl hr).below q.low).set _ _).set _ _
set_option maxRecDepth 100000 in
set_option maxHeartbeats 6400000 in
theorem read_any {w : World} {g a wh wd : Nat} {cs : Array Value} {p : Option Addr} {F : Value} {d : Bool} {k lo v kk : Int} {r : Nat → Int} {n : Nd} {P : World → Prop}
    (hr : Row w g 81 cs) (hs : IsS cs p F d k a r wh wd lo n) (ha : a < 18446744073709551616) (hwh : wh = 0 ∨ wh = 1) (hwd : wd < 24)
    (HL : ∀ W, Below w.heap.size w W → Calls Try.prog 24 #[.pointer p, .int .u64 ((wordAt a wd : Nat) : Int)] W fun e' w' => e' = .returned (.tuple #[.int .u64 v, .int .i64 kk]) ∧ LQ g cs P w') :
    Calls Try.prog 55 #[.pointer (some ⟨g, 0, none⟩)] w (FPost g P kk (fun cs' => IsS cs' p (rdF F g r wh wd v) d k a (rput r (24 * wh + wd) v) (rdWh wh wd v : Nat) ((bh wd v).1 : Nat) lo n)) := by
  have mixed : Try.prog.follows .mixedOrders = true := by kernel_rfl
  have c0 := (hr.cell 0).trans hs.c0
  have HDR := Lib.hid (drew_below w)
  have STAY := Lib.hid (show ∀ W, Below w.heap.size w W → W.cell? ⟨g, 4, none⟩ = some (.int .u64 (a : Int)) ∧ W.cell? ⟨g, 54, none⟩ = some (.int .i64 (wd : Int)) from fun W hb => ⟨(hr.below hb hr.lt).cell 4 |>.trans hs.c4, (hr.below hb hr.lt).cell 54 |>.trans hs.cd⟩)
  have STQ := Lib.hid (show ∀ W, Row W g 81 cs → W.cell? ⟨g, 4, none⟩ = some (.int .u64 (a : Int)) ∧ W.cell? ⟨g, 54, none⟩ = some (.int .i64 (wd : Int)) from fun W h => ⟨(h.cell 4).trans hs.c4, (h.cell 54).trans hs.cd⟩)
  have HM := Lib.hid (macLoad_any (k := wd) ((drew_below w).cell (block_lt_of_cell c0) |>.trans c0) ha hwd (HL _ (drew_below w)))
  have HS := Lib.hid hs
  have HBH := Lib.hid fun W => behindS_any hwd v W
  have HWD := Lib.hid hwd
  obtain ⟨b1, hb1⟩ : ∃ b, b = (bh wd v).1 := ⟨_, rfl⟩
  obtain ⟨b2, hb2⟩ : ∃ b, b = (bh wd v).2 := ⟨_, rfl⟩
  have HB2 := Lib.hid hb2
  have HRF := Lib.hid (show rdF F g r wh wd v = (if b2 = true then F else if wh = 0 then F else if rput r (24 * wh + wd) v 26 = 0 then nextV 72 g else nextV 71 g) ∧ rdWh wh wd v = if b2 = true then wh else 1 from by
    unfold rdF rdWh
    rw [← hb2]
    exact ⟨rfl, rfl⟩)
  rw [← hb1, ← hb2] at HBH
  rw [← hb1]
  have HWH := Lib.hid hwh
  clear hr hs HL c0 ha hb1 hb2 hwh
  go_enter Try.func55, Try.ntmps55
  go_wp2_with fail
  refine wp_region_held_drew (S := fun W' => W'.cell? ⟨g, 4, none⟩ = some (.int .u64 (a : Int)) ∧ W'.cell? ⟨g, 54, none⟩ = some (.int .i64 (wd : Int))) (by kernel_rfl) (STAY.out _ HDR.out) (fun hHeld => ?_)
  refine wpAnyH_take (i := 0) (oi := ⟨some 8, _, _, _, _, _⟩) (v := .pointer (some ⟨g, 0, none⟩)) rfl (by kernel_rfl) (by kernel_rfl) (by kernel_rfl) (fun _ _ _ h => h) (Or.inl ⟨by rfl, by intro WW hSw; (try dsimp only at hSw); go_simp⟩) (by assumption) ?_
  (try simp only [Act.put, List.setIfInBounds_toArray, List.set_cons_zero, List.set_cons_succ])
  refine wpAnyH_take (i := 1) (oi := ⟨some 9, _, _, _, _, _⟩) (v := .pointer (some ⟨g, 0, none⟩)) rfl (by kernel_rfl) (by kernel_rfl) (by kernel_rfl) (fun _ _ _ h => h) (Or.inl ⟨by rfl, by intro WW hSw; (try dsimp only at hSw); go_simp⟩) (by assumption) ?_
  (try simp only [Act.put, List.setIfInBounds_toArray, List.set_cons_zero, List.set_cons_succ])
  refine wpAnyH_take (i := 2) (oi := ⟨some 10, _, _, _, _, _⟩) (v := .pointer (some ⟨g, 0, none⟩)) rfl (by kernel_rfl) (by kernel_rfl) (by kernel_rfl) (fun _ _ _ h => h) (Or.inl ⟨by rfl, by intro WW hSw; (try dsimp only at hSw); go_simp⟩) (by assumption) ?_
  (try simp only [Act.put, List.setIfInBounds_toArray, List.set_cons_zero, List.set_cons_succ])
  refine wpAnyH_take (i := 3) (oi := ⟨some 11, _, _, _, _, _⟩) (v := .pointer (some ⟨g, 0, none⟩)) rfl (by kernel_rfl) (by kernel_rfl) (by kernel_rfl) (fun _ _ _ h => h) (Or.inl ⟨by rfl, by intro WW hSw; (try dsimp only at hSw); go_simp⟩) (by assumption) ?_
  (try simp only [Act.put, List.setIfInBounds_toArray, List.set_cons_zero, List.set_cons_succ])
  refine wpAnyH_take (i := 4) (oi := ⟨some 12, _, _, _, _, _⟩) (v := .pointer (some ⟨g, 0, none⟩)) rfl (by kernel_rfl) (by kernel_rfl) (by kernel_rfl) (fun _ _ _ h => h) (Or.inl ⟨by rfl, by intro WW hSw; (try dsimp only at hSw); go_simp⟩) (by assumption) ?_
  (try simp only [Act.put, List.setIfInBounds_toArray, List.set_cons_zero, List.set_cons_succ])
  refine wpAnyH_take (i := 5) (oi := ⟨some 13, _, _, _, _, _⟩) (v := .pointer (some ⟨g, 4, none⟩)) rfl (by kernel_rfl) (by kernel_rfl) (by kernel_rfl) (fun _ _ _ h => h) (Or.inl ⟨by rfl, by intro WW hSw; (try dsimp only at hSw); go_simp⟩) (by assumption) ?_
  (try simp only [Act.put, List.setIfInBounds_toArray, List.set_cons_zero, List.set_cons_succ])
  refine wpAnyH_take (i := 6) (oi := ⟨some 14, _, _, _, _, _⟩) (v := .int .u64 (a : Int)) rfl (by kernel_rfl) (by kernel_rfl) (by kernel_rfl) (fun _ _ _ h => h) (Or.inl ⟨by rfl, by intro WW hSw; (try dsimp only at hSw); go_simp⟩) (by assumption) ?_
  (try simp only [Act.put, List.setIfInBounds_toArray, List.set_cons_zero, List.set_cons_succ])
  refine wpAnyH_take (i := 7) (oi := ⟨some 15, _, _, _, _, _⟩) (v := .pointer (some ⟨g, 0, none⟩)) rfl (by kernel_rfl) (by kernel_rfl) (by kernel_rfl) (fun _ _ _ h => h) (Or.inl ⟨by rfl, by intro WW hSw; (try dsimp only at hSw); go_simp⟩) (by assumption) ?_
  (try simp only [Act.put, List.setIfInBounds_toArray, List.set_cons_zero, List.set_cons_succ])
  refine wpAnyH_take (i := 8) (oi := ⟨some 16, _, _, _, _, _⟩) (v := .pointer (some ⟨g, 0, none⟩)) rfl (by kernel_rfl) (by kernel_rfl) (by kernel_rfl) (fun _ _ _ h => h) (Or.inl ⟨by rfl, by intro WW hSw; (try dsimp only at hSw); go_simp⟩) (by assumption) ?_
  (try simp only [Act.put, List.setIfInBounds_toArray, List.set_cons_zero, List.set_cons_succ])
  refine wpAnyH_take (i := 9) (oi := ⟨some 17, _, _, _, _, _⟩) (v := .pointer (some ⟨g, 54, none⟩)) rfl (by kernel_rfl) (by kernel_rfl) (by kernel_rfl) (fun _ _ _ h => h) (Or.inl ⟨by rfl, by intro WW hSw; (try dsimp only at hSw); go_simp⟩) (by assumption) ?_
  (try simp only [Act.put, List.setIfInBounds_toArray, List.set_cons_zero, List.set_cons_succ])
  refine wpAnyH_take (i := 10) (oi := ⟨some 18, _, _, _, _, _⟩) (v := .int .i64 (wd : Int)) rfl (by kernel_rfl) (by kernel_rfl) (by kernel_rfl) (fun _ _ _ h => h) (Or.inl ⟨by rfl, by intro WW hSw; (try dsimp only at hSw); go_simp⟩) (by assumption) ?_
  (try simp only [Act.put, List.setIfInBounds_toArray, List.set_cons_zero, List.set_cons_succ])
  refine wpAnyH_one (i := 11) (oi := ⟨some 19, _, _, _, _, _⟩) rfl (by kernel_rfl) (fun K hK => ?_)
  refine step_calls (by rfl) 54 (fun args w => Try.call54 _ _) [.tmp 10, .tmp 14, .tmp 18] _ rfl [.pointer (some ⟨g, 0, none⟩), .int .u64 (a : Int), .int .i64 (wd : Int)] rfl (HM.out) ?_
  rintro e w2 ⟨rfl, hq, hp⟩
  have HQ := Lib.hid hq
  have HP := Lib.hid hp
  clear hq hp HM
  refine ⟨_, rfl, hK _ _ (STQ.out _ HQ.out) (fun hSn => ?_)⟩
  clear hK K
  (try simp only [Act.put, List.setIfInBounds_toArray, List.set_cons_zero, List.set_cons_succ])
  refine wpAnyH_take (i := 12) (oi := ⟨some 7, _, _, _, _, _⟩) (v := .tuple #[.int .u64 v, .int .i64 kk]) rfl (by kernel_rfl) (by kernel_rfl) (by kernel_rfl) (fun _ _ _ h => h) (Or.inl ⟨by rfl, by intro WW hSw; (try dsimp only at hSw); go_simp⟩) (by assumption) ?_
  (try simp only [Act.put, List.setIfInBounds_toArray, List.set_cons_zero, List.set_cons_succ])
  refine wpAnyH_take (i := 13) (oi := ⟨some 20, _, _, _, _, _⟩) (v := .int .u64 v) rfl (by kernel_rfl) (by kernel_rfl) (by kernel_rfl) (fun _ _ _ h => h) (Or.inl ⟨by rfl, by intro WW hSw; (try dsimp only at hSw); go_simp⟩) (by assumption) ?_
  (try simp only [Act.put, List.setIfInBounds_toArray, List.set_cons_zero, List.set_cons_succ])
  refine wpAnyH_take (i := 14) (oi := ⟨some 21, _, _, _, _, _⟩) (v := .int .i64 kk) rfl (by kernel_rfl) (by kernel_rfl) (by kernel_rfl) (fun _ _ _ h => h) (Or.inl ⟨by rfl, by intro WW hSw; (try dsimp only at hSw); go_simp⟩) (by assumption) ?_
  (try simp only [Act.put, List.setIfInBounds_toArray, List.set_cons_zero, List.set_cons_succ])
  refine wpAnyH_take (i := 15) (oi := ⟨some 3, _, _, _, _, _⟩) (v := .int .u64 v) rfl (by kernel_rfl) (by kernel_rfl) (by kernel_rfl) (fun _ _ _ h => h) (Or.inl ⟨by rfl, by intro WW hSw; (try dsimp only at hSw); go_simp⟩) (by assumption) ?_
  (try simp only [Act.put, List.setIfInBounds_toArray, List.set_cons_zero, List.set_cons_succ])
  refine wpAnyH_take (i := 16) (oi := ⟨some 4, _, _, _, _, _⟩) (v := .int .i64 kk) rfl (by kernel_rfl) (by kernel_rfl) (by kernel_rfl) (fun _ _ _ h => h) (Or.inl ⟨by rfl, by intro WW hSw; (try dsimp only at hSw); go_simp⟩) (by assumption) ?_
  (try simp only [Act.put, List.setIfInBounds_toArray, List.set_cons_zero, List.set_cons_succ])
  refine wpAnyH_done (by kernel_rfl) ?_ _


  go_wp2_with fail
  have c53 := (HQ.out.cell 53).trans HS.out.cw
  have c54 := (HQ.out.cell 54).trans HS.out.cd
  have ca := fun q : LowBy w2 => q.cell c53
  have cb := fun q : LowBy w2 => q.cell c54
  clear c53 c54 STQ hSn hHeld STAY HDR
  have HX := Lib.hid (rd_facts HQ.out HS.out hwd)
  rcases HWH.out with rfl | rfl
  · refine wp_region_low_tail 14 (by assumption) (by kernel_rfl) ?_
    simp only [List.take_succ_cons, List.take_zero, List.drop_succ_cons, List.drop_zero]
    repeat (go_big_quiet_step (fail))
    refine wpQuiet_nil ?_
    intro _ hw'
    obtain ⟨q, hw''⟩ := hw'
    subst hw''
    obtain ⟨e1, e2, e3, e4, e5, e6⟩ := HX.out 0 (by omega) q
    have FIN := rd_fin (wh := 0) HQ.out HS.out HWD.out (by omega) HP.out q v b1
    rw [show 5 + 24 * 0 + wd = 5 + wd by omega] at e1 e3 e4 e5 e6 FIN
    clear ca cb HX
    obtain ⟨cs', fp, fi, fs⟩ := FIN
    cases b2 with
    | true =>
      have HE := Lib.hid (show ∃ w1 cs', P w1 ∧ IsS cs' p (rdF F g r 0 wd v) d k a (rput r (24 * 0 + wd) v) (rdWh 0 wd v : Nat) (b1 : Nat) lo n ∧ Sw w1 ((q.W.setCell ⟨g, 5 + wd, none⟩ (.int .u64 v)).setCell ⟨g, 54, none⟩ (.int .i64 (b1 : Nat))) g cs' from
        ⟨w2, cs', fp, by rw [HRF.out.1, HRF.out.2]; exact fi, fs⟩)
      clear e6 fp fi fs HRF
      go_wp2_with (refine (HBH.out _).mono ?_; rintro e w3 ⟨rfl, rfl⟩)
      go_ret
      exact ⟨rfl, HE.out⟩
    | false =>
      have HE := Lib.hid (show ∃ w1 cs', P w1 ∧ IsS cs' p (rdF F g r 0 wd v) d k a (rput r (24 * 0 + wd) v) (rdWh 0 wd v : Nat) (b1 : Nat) lo n ∧ Sw w1 (((q.W.setCell ⟨g, 5 + wd, none⟩ (.int .u64 v)).setCell ⟨g, 54, none⟩ (.int .i64 (b1 : Nat))).setCell ⟨g, 53, none⟩ (.int .i64 1)) g cs' from
        ⟨w2, _, fp, by rw [HRF.out.1, HRF.out.2]; exact fi.which 1, fs.set 53 _⟩)
      clear e6 fp fi fs HRF
      go_wp2_with (refine (HBH.out _).mono ?_; rintro e w3 ⟨rfl, rfl⟩)
      go_ret
      exact ⟨rfl, HE.out⟩
  · refine wp_region_low_tail 14 (by assumption) (by kernel_rfl) ?_
    simp only [List.take_succ_cons, List.take_zero, List.drop_succ_cons, List.drop_zero]
    repeat (go_big_quiet_step (fail))
    refine wpQuiet_nil ?_
    intro _ hw'
    obtain ⟨q, hw''⟩ := hw'
    subst hw''
    obtain ⟨e1, e2, e3, e4, e5, e6⟩ := HX.out 1 (by omega) q
    have FIN := rd_fin (wh := 1) HQ.out HS.out HWD.out (by omega) HP.out q v b1
    rw [show 5 + 24 * 1 + wd = 29 + wd by omega] at e1 e3 e4 e5 e6 FIN
    clear ca cb HX
    obtain ⟨cs', fp, fi, fs⟩ := FIN
    cases b2 with
    | true =>
      have HE := Lib.hid (show ∃ w1 cs', P w1 ∧ IsS cs' p (rdF F g r 1 wd v) d k a (rput r (24 * 1 + wd) v) (rdWh 1 wd v : Nat) (b1 : Nat) lo n ∧ Sw w1 ((q.W.setCell ⟨g, 29 + wd, none⟩ (.int .u64 v)).setCell ⟨g, 54, none⟩ (.int .i64 (b1 : Nat))) g cs' from
        ⟨w2, cs', fp, by rw [HRF.out.1, HRF.out.2]; exact fi, fs⟩)
      clear e6 fp fi fs HRF
      go_wp2_with (refine (HBH.out _).mono ?_; rintro e w3 ⟨rfl, rfl⟩)
      go_ret
      exact ⟨rfl, HE.out⟩
    | false =>
      have e6 := e6 (bh_no HB2.out.symm)
      have hn26 : rput r (24 * 1 + wd) v 26 = r 26 := by
        have := bh_no HB2.out.symm
        unfold rput
        rw [if_neg (by omega)]
      by_cases h26 : r 26 = 0
      · have HE := Lib.hid (show ∃ w1 cs', P w1 ∧ IsS cs' p (rdF F g r 1 wd v) d k a (rput r (24 * 1 + wd) v) (rdWh 1 wd v : Nat) (b1 : Nat) lo n ∧ Sw w1 (((q.W.setCell ⟨g, 29 + wd, none⟩ (.int .u64 v)).setCell ⟨g, 54, none⟩ (.int .i64 (b1 : Nat))).setCell ⟨g, 1, none⟩ (.func (.func 72) #[.pointer (some ⟨g, 0, none⟩)] #[])) g cs' from
          ⟨w2, _, fp, by rw [HRF.out.1, HRF.out.2, hn26, h26]; exact fi.next _, fs.set 1 _⟩)
        have hb : (r 26 != 0) = false := by simp [h26]
        clear fp fi fs HRF hn26
        obtain ⟨z, hz⟩ : ∃ z, z = r 26 := ⟨_, rfl⟩
        rw [← hz] at e6 hb
        clear hz h26
        go_wp2_with (refine (HBH.out _).mono ?_; rintro e w3 ⟨rfl, rfl⟩)
        go_ret
        exact ⟨rfl, HE.out⟩
      · have HE := Lib.hid (show ∃ w1 cs', P w1 ∧ IsS cs' p (rdF F g r 1 wd v) d k a (rput r (24 * 1 + wd) v) (rdWh 1 wd v : Nat) (b1 : Nat) lo n ∧ Sw w1 (((q.W.setCell ⟨g, 29 + wd, none⟩ (.int .u64 v)).setCell ⟨g, 54, none⟩ (.int .i64 (b1 : Nat))).setCell ⟨g, 1, none⟩ (.func (.func 71) #[.pointer (some ⟨g, 0, none⟩)] #[])) g cs' from
          ⟨w2, _, fp, by rw [HRF.out.1, HRF.out.2, hn26, if_neg (by simp), if_neg (by simp), if_neg h26, if_neg (by simp)]; exact fi.next _, fs.set 1 _⟩)
        have hb : (r 26 != 0) = true := by simp [h26]
        clear fp fi fs HRF hn26
        obtain ⟨z, hz⟩ : ∃ z, z = r 26 := ⟨_, rfl⟩
        rw [← hz] at e6 hb
        clear hz h26
        go_wp2_with (refine (HBH.out _).mono ?_; rintro e w3 ⟨rfl, rfl⟩)
        go_ret
        exact ⟨rfl, HE.out⟩
end Go.Proofs.Ytaabdmlmemmnaaa
