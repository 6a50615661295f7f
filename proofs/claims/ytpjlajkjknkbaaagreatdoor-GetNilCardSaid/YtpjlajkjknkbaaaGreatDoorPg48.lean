/- Texts of this claim, packed: VRd, VEn. -/
import Derived.Test.YtpjlajkjknkbaaaGreatDoorPg47
import Derived.Test.YtpjlajkjknkbaaaGreatDoorPg19
import Derived.Test.YtpjlajkjknkbaaaGreatDoorPg01
/- A read of a value in memory: where it lies; one word loaded, or refused; for reads that lie apart from their memory. -/
namespace Go.Proofs.YtpjlajkjknkbaaaGreatDoor
open Go.RowKit Go.Sort Go.Shelf
set_option linter.unusedVariables false

/-- What is to be done next, by its function. -/
def vF (f rg : Nat) : Value := .func (.func f) #[.pointer (some ⟨rg, 0, none⟩)] #[]
/-- A read's cells. -/
def rdC (p : Option Addr) (b : Int) (F V : Value) (S : ByteArray) (d : Bool) (k : Int) : Array Value := #[.pointer p, .int .u64 b, F, V, .string S, .bool d, .int .i64 k]
/-- Where it lies; all that it takes lies from B on. -/
structure RdAt (w : World) (B g b : Nat) (p : Option Addr) (f : Nat) (ws : List Nat) (S : ByteArray) (d : Bool) (k : Int) (V : Value) : Prop where
  row : Row w g 113 (rdC p b (vF f g) V S d k)
  own : w.ownsRow B 24 1 V ws.length (ws.map wv)
  gB : B ≤ g
/-- A memory that lies below. -/
def Sep (y : Lay) (B : Nat) : Prop := ∀ q, y.fp q → q < B
theorem ownS_below {w w' : World} {B n : Nat} {e : TypeId} {v : Value} {xs : List Value} (h : w.ownsRow B e 1 v n xs) (hb : ∀ g, v.ownBlock = some g → w'.heap[g]? = w.heap[g]?) : w'.ownsRow B e 1 v n xs := by
  refine ⟨h.1, ?_⟩
  rcases h.2 with h0 | ⟨g, cap, cur, rfl, hg, hh, hr⟩
  · exact .inl h0
  · exact .inr ⟨g, cap, cur, rfl, hg, (hb g rfl).trans hh, hr⟩
section
variable {w w' : World} {B g b : Nat} {p : Option Addr} {f : Nat} {ws : List Nat} {S : ByteArray} {d : Bool} {k : Int} {V : Value}
theorem RdAt.but {fp : Nat → Prop} (h : RdAt w B g b p f ws S d k V) (hb : But w w' fp) (hg : ∀ q, fp q → q < B) : RdAt w' B g b p f ws S d k V :=
  ⟨hb.row h.row (fun e => by have := hg _ e; have := h.gB; omega), ownS_below h.own fun q hq => hb.block q (h.own.lt q hq).2 (fun e => by have := hg _ e; have := (h.own.lt q hq).1; omega), h.gB⟩
theorem RdAt.below (h : RdAt w B g b p f ws S d k V) (hb : Below w.heap.size w w') : RdAt w' B g b p f ws S d k V :=
  ⟨h.row.below hb h.row.lt, own_keep h.own hb, h.gB⟩
theorem RdAt.val (h : RdAt w B g b p f ws S d k V) : ∃ A cap, V = .slice A ws.length cap ∧ ws.length ≤ cap ∧ cap ≤ maxLen ∧ Sl w A (ws.map wv) := by
  obtain ⟨A, cap, e, h1, h2, h3, _⟩ := own_sl h.own
  exact ⟨A, cap, e, h1, h2, h3⟩
theorem RdAt.ne (h : RdAt w B g b p f ws S d k V) : some g ≠ V.ownBlock := own_ne h.own h.row (by decide)
theorem RdAt.size (h : RdAt w B g b p f ws S d k V) : B ≤ w.heap.size := by have := h.row.lt; have := h.gB; omega
end
/-- What turns: the memory, and what lies from B on. -/
def rdFp (y : Lay) (B q : Nat) : Prop := y.fp q ∨ B ≤ q
/-- The same, closer: the memory, the read, its words. -/
def vrF (y : Lay) (g : Nat) (V : Value) (q : Nat) : Prop := y.fp q ∨ q = g ∨ V.ownBlock = some q
theorem vrF_fp {w : World} {y : Lay} {B g b f : Nat} {p : Option Addr} {ws : List Nat} {S : ByteArray} {d : Bool} {k : Int} {V : Value} (h : RdAt w B g b p f ws S d k V) (q : Nat) (hq : vrF y g V q) : rdFp y B q :=
  hq.elim .inl fun e => .inr (e.elim (fun e => by rw [e]; exact h.gB) fun e => (h.own.lt q e).1)
theorem vrF_len {y : Lay} {g m n cap : Nat} {A : Option Addr} {q : Nat} (h : vrF y g (.slice A m cap) q) : vrF y g (.slice A n cap) q :=
  h.imp_right fun h => h.imp_right fun e => by cases A <;> exact e
/-- What a word's loading does. -/
def LdPost (w : World) (y : Lay) (V : Value) (s : St) (B g b f : Nat) (ws : List Nat) (S : ByteArray) (d : Bool) (k : Int) (x : Nat) (w' : World) : Prop :=
  ∃ V', RdAt w' B g b (some ⟨y.g, 0, none⟩) f (ws ++ [x]) S d k V' ∧ MemAt w' y { s with ld := s.ld + 1 } ∧ But w w' (vrF y g V)
set_option maxRecDepth 100000 in
set_option maxHeartbeats 1600000 in
theorem vload_ok {w : World} {y : Lay} {s : St} (h : MemAt w y s) (ok : s.Ok) {B g b f : Nat} {ws : List Nat} {S : ByteArray} {d : Bool} {k : Int} {V : Value}
    (hr : RdAt w B g b (some ⟨y.g, 0, none⟩) f ws S d k V) (sep : Sep y B) (h8 : (b + 8 * ws.length) % 8 = 0) (ha : b + 8 * ws.length < 64 * s.nl) (h16 : ws.length < 16) :
    Calls Tryz.prog 67 #[.pointer (some ⟨g, 0, none⟩)] w fun e w' => e = .returned (.int .i64 0) ∧ LdPost w y V s B g b f ws S d k (s.view.getD ((b + 8 * ws.length) / 8) 0) w' := by
  have mixed : Tryz.prog.follows .mixedOrders = true := by kernel_rfl
  obtain ⟨i0, hi, hz0, hz1, hz2⟩ := info_parts info22
  obtain ⟨A, cap, rfl, hlc, hcm, hsl⟩ := hr.val
  have hmost := h.most
  have HWA := Lib.hid fun (q : LowBy w) => Calls.low_of_same (p := q) (vwordAt_any b ws.length q.W (by omega))
  have HL := Lib.hid fun (q : LowBy w) => load_okY (h.below q.low) ok (b + 8 * ws.length) h8 ha
  have HRB := Lib.hid fun (q : LowBy w) => hr.below q.low
  have c0 := hr.row.cell 0
  have c1 := hr.row.cell 1
  have c3 := hr.row.cell 3
  simp only [rdC, List.getElem?_toArray, List.getElem?_cons_succ, List.getElem?_cons_zero] at c0 c1 c3
  have ca := fun p : LowBy w => p.cell c0
  have cb := fun p : LowBy w => p.cell c1
  have cc := fun p : LowBy w => p.cell c3
  obtain ⟨x, hx⟩ : ∃ x, x = s.view.getD ((b + 8 * ws.length) / 8) 0 := ⟨_, rfl⟩
  rw [← hx] at HL ⊢
  obtain ⟨a, haa⟩ : ∃ a, a = b + 8 * ws.length := ⟨_, rfl⟩
  rw [← haa] at HL HWA
  have HSEP := Lib.hid sep
  obtain ⟨m, hm⟩ : ∃ m, m = ws.length := ⟨_, rfl⟩
  have HM := Lib.hid hm
  rw [← hm] at HWA HRB cc hlc h16
  have HMEM := Lib.hid h
  clear hr h sep c0 c1 c3 hsl hx haa hm h8 ha
  go_enter Tryz.func67, Tryz.ntmps67
  go_wp2_with fail
  refine wp_region_quiet_mid (C := fun w' => ∃ p : LowBy w, w' = p.W) 14 (firstM 14 20) (by assumption) (by kernel_rfl) ⟨⟨w.drew, (Below.refl _ w).drew⟩, rfl⟩ ?_
  simp only [List.take_succ_cons, List.take_zero]
  repeat (go_big_quiet_step ((go_at_call 103; with_reducible exact HWA.out _)))
  refine wpQuiet_nil ?_
  intro _ hw'
  obtain ⟨q, hw''⟩ := hw'
  subst hw''
  have HR := Lib.hid (HRB.out q)
  have HQ := Lib.hid q.low
  have HL2 := Lib.hid (HL.out q)
  clear ca cb cc HWA HRB HL
  change wpAny _ _ _ _ 6 _ _ _
  refine wpAny_ready (rs := [14]) (by kernel_rfl) (by simp) ?_
  refine AllReady.cons rfl (fun K hK => ?_) AllReady.nil
  go_simp
  refine HL2.out.mono ?_
  rintro e w2 ⟨rfl, hm2, ht2⟩
  refine hK _ _ ?_
  clear hK K
  refine wpAny_take (i := 15) (oi := ⟨some 5, _, _, _, _, _⟩) (v := .tuple #[.int .u64 (x : Int), .int .i64 0]) rfl (by kernel_rfl) (by kernel_rfl) (by kernel_rfl) (fun _ _ _ h => h) (Or.inl ⟨by kernel_rfl, by intro w; go_simp⟩) ?_
  simp only [Act.put, List.setIfInBounds_toArray, List.set_cons_zero, List.set_cons_succ]
  refine wpAny_take (i := 16) (oi := ⟨some 21, _, _, _, _, _⟩) (v := .int .u64 (x : Int)) rfl (by kernel_rfl) (by kernel_rfl) (by kernel_rfl) (fun _ _ _ h => h) (Or.inl ⟨by kernel_rfl, by intro w; go_simp⟩) ?_
  simp only [Act.put, List.setIfInBounds_toArray, List.set_cons_zero, List.set_cons_succ]
  refine wpAny_take (i := 17) (oi := ⟨some 22, _, _, _, _, _⟩) (v := .int .i64 0) rfl (by kernel_rfl) (by kernel_rfl) (by kernel_rfl) (fun _ _ _ h => h) (Or.inl ⟨by kernel_rfl, by intro w; go_simp⟩) ?_
  simp only [Act.put, List.setIfInBounds_toArray, List.set_cons_zero, List.set_cons_succ]
  refine wpAny_take (i := 18) (oi := ⟨some 3, _, _, _, _, _⟩) (v := .int .u64 (x : Int)) rfl (by kernel_rfl) (by kernel_rfl) (by kernel_rfl) (fun _ _ _ h => h) (Or.inl ⟨by kernel_rfl, by intro w; go_simp⟩) ?_
  simp only [Act.put, List.setIfInBounds_toArray, List.set_cons_zero, List.set_cons_succ]
  refine wpAny_take (i := 19) (oi := ⟨some 4, _, _, _, _, _⟩) (v := .int .i64 0) rfl (by kernel_rfl) (by kernel_rfl) (by kernel_rfl) (fun _ _ _ h => h) (Or.inl ⟨by kernel_rfl, by intro w; go_simp⟩) ?_
  simp only [Act.put, List.setIfInBounds_toArray, List.set_cons_zero, List.set_cons_succ]
  refine wpAny_done (by kernel_rfl) ?_ _
  have hr2 : RdAt w2 B g b (some ⟨y.g, 0, none⟩) f ws S d k (.slice A m cap) := HR.out.but ht2.but HSEP.out
  have c3 := hr2.row.cell 3
  have f3 := hr2.row.free 3
  simp only [rdC, List.getElem?_toArray, List.getElem?_cons_succ, List.getElem?_cons_zero] at c3
  have hown := hr2.own.alloc (.cells #[wv x] 24)
  rw [← HM.out] at hown
  have HR2 := Lib.hid hr2
  have HM2 := Lib.hid hm2
  have HT2 := Lib.hid ht2
  clear hr2 hm2 ht2 HL2 HR
  have h63 : m + 1 ≤ maxLen := by unfold maxLen; omega
  have hby : (m + 1) * 8 ≤ 140737488355328 := by omega
  have hrow := HR2.out.row.alloc (.cells #[wv x] 24)
  have HROW := Lib.hid hrow
  have HNE := Lib.hid HR2.out.ne
  have HBZ := Lib.hid (show B ≤ (w2.alloc (.cells #[wv x] 24)).heap.size by have := HR2.out.size; simp; omega)
  clear hrow
  go_wp2_with (at_builtin; refine wpList_append_own _ rfl (.tmp 29) (.tmp 31) 57 rfl B 24 i0 (.int .u64 0) 1 8 Tryz.underlying57 hi hz0 hz1 hz2 rfl (by decide) (.slice A m cap) m _ rfl hown ⟨w2.heap.size, 0, none⟩ 1 1 [wv x] rfl rfl (cell_one_new _ _ _) (wv_ones [x]) h63 hby HBZ.out ?_; intro V4 w4 hown4 hgrow hnil; have hr4 := HROW.out.grown hgrow HNE.out; have f3' := hr4.free 3; have c3' := hr4.cell 3; simp only [rdC, List.getElem?_toArray, List.getElem?_cons_succ, List.getElem?_cons_zero] at c3'; have HR4 := Lib.hid hr4; have HO4 := Lib.hid hown4; have HG4 := Lib.hid hgrow; obtain ⟨A4, cap4, rfl, _, _, _, _⟩ := own_sl hown4; clear hnil hr4 hown4 hgrow)
  go_ret
  have hsz := HT2.out.size
  have hqs := HQ.out.size
  have hB := HR2.out.size
  have hb2 : But w w2 (vrF y g (.slice A m cap)) := (But.of_below HQ.out _).trans (HT2.out.but.mono fun _ h => .inl h) (fun _ h => .inl h)
  have hg : But w2 w4 (vrF y g (.slice A m cap)) := ⟨HG4.out.os, HG4.out.tape, HG4.out.output, Nat.le_trans (by simp) HG4.out.size, fun q hq hn => (HG4.out.block q (by simp; omega) (fun e => hn (.inr (.inr e.symm)))).trans (Below.heap_alloc w2 _ q hq)⟩
  have hb4 : But w (w4.setCell ⟨g, 3, none⟩ (.slice A4 (m + 1) cap4)) (vrF y g (.slice A m cap)) := (hb2.trans hg (fun _ h => .inl h)).set (p := ⟨g, 3, none⟩) (.inr (.inl rfl)) _
  refine ⟨rfl, .slice A4 (m + 1) cap4, ⟨?_, ?_, HR2.out.gB⟩, ?_, hb4.mono fun q hq => vrF_len hq⟩
  · exact HR4.out.set 3 _
  · rw [List.length_append, List.length_singleton, ← HM.out, List.map_append]
    exact own_set HO4.out (p := ⟨g, 3, none⟩) (own_ne HO4.out HR4.out (by decide)) _
  · refine HM2.out.same fun q hq => ?_
    have hlt := HM2.out.lt q hq
    have hqB := HSEP.out q hq
    have hgB := HR2.out.gB
    exact (heap_setCell_other _ _ _ _ (by simp; omega)).trans ((HG4.out.block q (by simp; omega) (fun e => by have := (HR2.out.own.lt q e.symm).1; omega)).trans (Below.heap_alloc w2 _ q hlt))
end Go.Proofs.YtpjlajkjknkbaaaGreatDoor
/- A read's load that is refused; its end; its first word, and its others: what each does, for reads that lie apart from their memory. -/
namespace Go.Proofs.YtpjlajkjknkbaaaGreatDoor
open Go.RowKit Go.Sort Go.Shelf
set_option linter.unusedVariables false
set_option maxRecDepth 100000 in
set_option maxHeartbeats 1600000 in
theorem vload_bad {w : World} {B g b f : Nat} {p : Option Addr} {ws : List Nat} {S : ByteArray} {d : Bool} {k kk : Int} {V : Value}
    (hr : RdAt w B g b p f ws S d k V) (hk : kk ≠ 0) (h64 : b + 8 * ws.length < 18446744073709551616)
    (HL0 : ∀ q : LowBy w, Calls Tryz.prog 35 #[.pointer p, .int .u64 ((b + 8 * ws.length : Nat) : Int)] q.W fun e w' => e = .returned (.tuple #[.int .u64 0, .int .i64 kk]) ∧ q.W = w') :
    Calls Tryz.prog 67 #[.pointer (some ⟨g, 0, none⟩)] w fun e w' => e = .returned (.int .i64 kk) ∧ Below w.heap.size w w' := by
  have mixed : Tryz.prog.follows .mixedOrders = true := by kernel_rfl
  obtain ⟨A, cap, rfl, hlc, hcm, hsl⟩ := hr.val
  have HWA := Lib.hid fun (q : LowBy w) => Calls.low_of_same (p := q) (vwordAt_any b ws.length q.W h64)
  have HL := Lib.hid HL0
  have c0 := hr.row.cell 0
  have c1 := hr.row.cell 1
  have c3 := hr.row.cell 3
  simp only [rdC, List.getElem?_toArray, List.getElem?_cons_succ, List.getElem?_cons_zero] at c0 c1 c3
  have ca := fun p : LowBy w => p.cell c0
  have cb := fun p : LowBy w => p.cell c1
  have cc := fun p : LowBy w => p.cell c3
  obtain ⟨a, haa⟩ : ∃ a, a = b + 8 * ws.length := ⟨_, rfl⟩
  rw [← haa] at HL HWA
  obtain ⟨m, hm⟩ : ∃ m, m = ws.length := ⟨_, rfl⟩
  rw [← hm] at HWA cc hlc
  have k0 : (kk == 0) = false := by rw [beq_eq_false_iff_ne]; exact hk
  clear hr c0 c1 c3 hsl haa hm HL0 hk h64
  go_enter Tryz.func67, Tryz.ntmps67
  go_wp2_with fail
  refine wp_region_quiet_mid (C := fun w' => ∃ p : LowBy w, w' = p.W) 14 (firstM 14 20) (by assumption) (by kernel_rfl) ⟨⟨w.drew, (Below.refl _ w).drew⟩, rfl⟩ ?_
  simp only [List.take_succ_cons, List.take_zero]
  repeat (go_big_quiet_step ((go_at_call 103; with_reducible exact HWA.out _)))
  refine wpQuiet_nil ?_
  intro _ hw'
  obtain ⟨q, hw''⟩ := hw'
  subst hw''
  have HQ := Lib.hid q.low
  have HL2 := Lib.hid (HL.out q)
  clear ca cb cc HWA HL
  change wpAny _ _ _ _ 6 _ _ _
  refine wpAny_ready (rs := [14]) (by kernel_rfl) (by simp) ?_
  refine AllReady.cons rfl (fun K hK => ?_) AllReady.nil
  go_simp
  refine HL2.out.mono ?_
  rintro e w2 ⟨rfl, rfl⟩
  refine hK _ _ ?_
  clear hK K
  refine wpAny_take (i := 15) (oi := ⟨some 5, _, _, _, _, _⟩) (v := .tuple #[.int .u64 0, .int .i64 kk]) rfl (by kernel_rfl) (by kernel_rfl) (by kernel_rfl) (fun _ _ _ h => h) (Or.inl ⟨by kernel_rfl, by intro w; go_simp⟩) ?_
  simp only [Act.put, List.setIfInBounds_toArray, List.set_cons_zero, List.set_cons_succ]
  refine wpAny_take (i := 16) (oi := ⟨some 21, _, _, _, _, _⟩) (v := .int .u64 0) rfl (by kernel_rfl) (by kernel_rfl) (by kernel_rfl) (fun _ _ _ h => h) (Or.inl ⟨by kernel_rfl, by intro w; go_simp⟩) ?_
  simp only [Act.put, List.setIfInBounds_toArray, List.set_cons_zero, List.set_cons_succ]
  refine wpAny_take (i := 17) (oi := ⟨some 22, _, _, _, _, _⟩) (v := .int .i64 kk) rfl (by kernel_rfl) (by kernel_rfl) (by kernel_rfl) (fun _ _ _ h => h) (Or.inl ⟨by kernel_rfl, by intro w; go_simp⟩) ?_
  simp only [Act.put, List.setIfInBounds_toArray, List.set_cons_zero, List.set_cons_succ]
  refine wpAny_take (i := 18) (oi := ⟨some 3, _, _, _, _, _⟩) (v := .int .u64 0) rfl (by kernel_rfl) (by kernel_rfl) (by kernel_rfl) (fun _ _ _ h => h) (Or.inl ⟨by kernel_rfl, by intro w; go_simp⟩) ?_
  simp only [Act.put, List.setIfInBounds_toArray, List.set_cons_zero, List.set_cons_succ]
  refine wpAny_take (i := 19) (oi := ⟨some 4, _, _, _, _, _⟩) (v := .int .i64 kk) rfl (by kernel_rfl) (by kernel_rfl) (by kernel_rfl) (fun _ _ _ h => h) (Or.inl ⟨by kernel_rfl, by intro w; go_simp⟩) ?_
  simp only [Act.put, List.setIfInBounds_toArray, List.set_cons_zero, List.set_cons_succ]
  refine wpAny_done (by kernel_rfl) ?_ _
  go_wp2
  go_ret
  exact ⟨rfl, HQ.out⟩

set_option maxRecDepth 100000 in
set_option maxHeartbeats 1600000 in
theorem vend_more {w : World} {B g b f n : Nat} {p : Option Addr} {t : List Nat} {S : ByteArray} {d : Bool} {k : Int} {V : Value} (hr : RdAt w B g b p f (n :: t) S d k V) (hlt : t.length + 1 < cnt n) :
    Calls Tryz.prog 70 #[.pointer (some ⟨g, 0, none⟩)] w fun e w' => e = .returned (.int .i64 0) ∧ Below w.heap.size w w' := by
  have mixed : Tryz.prog.follows .mixedOrders = true := by kernel_rfl
  obtain ⟨A, cap, rfl, hlc, hcm, hsl⟩ := hr.val
  obtain ⟨a, rfl, ha⟩ := hsl.at_ (i := 0) (by simp)
  simp only [List.map_cons, List.getElem_cons_zero, add_zero'] at ha
  unfold wv at ha
  have HC := Lib.hid fun (q : LowBy w) => Calls.low_of_same (p := q) (vcount_any n q.W)
  have c3 := hr.row.cell 3
  simp only [rdC, List.getElem?_toArray, List.getElem?_cons_succ, List.getElem?_cons_zero] at c3
  have ca := fun p : LowBy w => p.cell c3
  have cb := fun p : LowBy w => p.cell ha
  obtain ⟨m, hm⟩ : ∃ m, m = (n :: t).length := ⟨_, rfl⟩
  rw [← hm] at ca hlc
  have hc16 := cnt_le n
  obtain ⟨c, hc⟩ : ∃ c, c = cnt n := ⟨_, rfl⟩
  rw [← hc] at HC hlt hc16
  have hmc : (m : Int) < (c : Int) := by rw [hm]; simp; omega
  have hmc2 : m < c := by omega
  have hm0 : 0 < m := by rw [hm]; simp
  clear hr c3 hsl ha hlt hm hc
  go_enter Tryz.func70, Tryz.ntmps70
  go_wp2_with fail
  refine wp_region_quiet_low (by assumption) (by kernel_rfl) ?_
  repeat (go_big_quiet_step ((go_at_call 68; with_reducible exact HC.out _)))
  refine wpQuiet_nil ?_
  intro _ hw'
  obtain ⟨q, hw''⟩ := hw'
  subst hw''
  have HQ := Lib.hid q.low
  clear ca cb HC
  go_wp2
  go_ret
  exact ⟨rfl, HQ.out⟩
/-- Behind what turned of a read's cells alone. -/
theorem RdAt.set {w : World} {B g b : Nat} {p : Option Addr} {f : Nat} {ws : List Nat} {S : ByteArray} {d : Bool} {k : Int} {V : Value} (h : RdAt w B g b p f ws S d k V) (i : Nat) (u : Value) {p' : Option Addr} {f' b' : Nat} {S' : ByteArray} {d' : Bool} {k' : Int}
    (he : (rdC p b (vF f g) V S d k).setIfInBounds i u = rdC p' b' (vF f' g) V S' d' k') : RdAt (w.setCell ⟨g, i, none⟩ u) B g b' p' f' ws S' d' k' V :=
  ⟨by rw [← he]; exact h.row.set i u, own_set h.own (p := ⟨g, i, none⟩) h.ne u, h.gB⟩
set_option maxRecDepth 100000 in
set_option maxHeartbeats 1600000 in
theorem vend_done {w : World} {B g b f n : Nat} {p : Option Addr} {t : List Nat} {S : ByteArray} {d : Bool} {k : Int} {V : Value} (hr : RdAt w B g b p f (n :: t) S d k V) (hlt : t.length + 1 = cnt n) (hn : n ≤ 120) (hwd : Wrds t) :
    Calls Tryz.prog 70 #[.pointer (some ⟨g, 0, none⟩)] w fun e w' => e = .returned (.int .i64 (rdK n t)) ∧ RdAt w' B g b p f (n :: t) (rdS n t) true k V ∧ But w w' (fun q => q = g) := by
  have mixed : Tryz.prog.follows .mixedOrders = true := by kernel_rfl
  obtain ⟨A, cap, rfl, hlc, hcm, hsl⟩ := hr.val
  obtain ⟨a, rfl, ha⟩ := hsl.at_ (i := 0) (by simp)
  simp only [List.map_cons, List.getElem_cons_zero, add_zero'] at ha
  unfold wv at ha
  have HC := Lib.hid fun (q : LowBy w) => Calls.low_of_same (p := q) (vcount_any n q.W)
  have c3 := hr.row.cell 3
  simp only [rdC, List.getElem?_toArray, List.getElem?_cons_succ, List.getElem?_cons_zero] at c3
  have ca := fun p : LowBy w => p.cell c3
  have cb := fun p : LowBy w => p.cell ha
  obtain ⟨m, hm⟩ : ∃ m, m = (n :: t).length := ⟨_, rfl⟩
  have HM := Lib.hid hm
  have hc16 := cnt_le n
  have HT := Lib.hid fun (W : World) (h : Sl W (some a) ((n :: t ++ []).map wv)) => vtext_any n t [] a m cap W (by rw [hm]; simp) hn hlt (by rw [hm]; exact hlc) hcm hwd h
  rw [← hm] at ca hlc
  have HR := Lib.hid fun (q : LowBy w) => hr.below q.low
  obtain ⟨c, hc⟩ : ∃ c, c = cnt n := ⟨_, rfl⟩
  rw [← hc] at HC hlt hc16
  have hmc : ¬ (m : Int) < (c : Int) := by rw [hm]; simp; omega
  have hmc2 : ¬ m < c := by omega
  have hm0 : 0 < m := by rw [hm]; simp
  obtain ⟨S2, hS⟩ : ∃ S2, S2 = rdS n t := ⟨_, rfl⟩
  obtain ⟨K2, hK⟩ : ∃ K2, K2 = rdK n t := ⟨_, rfl⟩
  rw [← hS, ← hK] at HT ⊢
  rw [← hm] at HR
  clear hr c3 hsl ha hlt hm hc hS hK hcm hwd
  go_enter Tryz.func70, Tryz.ntmps70
  go_wp2_with fail
  refine wp_region_quiet_low (by assumption) (by kernel_rfl) ?_
  repeat (go_big_quiet_step ((go_at_call 68; with_reducible exact HC.out _)))
  refine wpQuiet_nil ?_
  intro _ hw'
  obtain ⟨q, hw''⟩ := hw'
  subst hw''
  have hr := HR.out q
  have HQ := Lib.hid q.low
  clear ca cb HC HR
  have c3 := hr.row.cell 3
  have c4 := hr.row.cell 4
  have c5 := hr.row.cell 5
  have f5 := hr.row.free 5
  have f4 := hr.row.free 4
  simp only [rdC, List.getElem?_toArray, List.getElem?_cons_succ, List.getElem?_cons_zero] at c3 c4 c5
  have hr1 := hr.set 5 (.bool true) (p' := p) (f' := f) (b' := b) (S' := S) (d' := true) (k' := k) rfl
  obtain ⟨_, _, e0, _, _, hsl1⟩ := hr1.val
  rw [← HM.out] at e0
  cases e0
  have HT1 := Lib.hid (HT.out _ (by rw [List.append_nil]; exact hsl1))
  have HR1 := Lib.hid hr1
  have HR := Lib.hid hr
  clear hr1 hsl1 hr HT
  go_wp2_with fail
  refine HT1.out.mono ?_
  rintro e w2 ⟨rfl, hb⟩
  have hr2 := HR1.out.below hb
  have c4' := hr2.row.cell 4
  have f4' := hr2.row.free 4
  simp only [rdC, List.getElem?_toArray, List.getElem?_cons_succ, List.getElem?_cons_zero] at c4'
  have HR2 := Lib.hid hr2
  have HB := Lib.hid hb
  clear hr2 hb HT1 c3 c4 c5 f5 f4
  go_wp2
  go_ret
  refine ⟨rfl, ?_, ?_⟩
  · have h := HR2.out.set 4 (.string S2) (p' := p) (f' := f) (b' := b) (S' := S2) (d' := true) (k' := k) rfl
    rw [HM.out] at h
    exact h
  · exact (((But.of_below HQ.out (fun q => q = g)).set (p := ⟨g, 5, none⟩) rfl _).trans (But.of_below HB.out (fun q => q = g)) (fun _ h => .inl h)).set (p := ⟨g, 4, none⟩) rfl _
end Go.Proofs.YtpjlajkjknkbaaaGreatDoor
