/- Texts of this claim, packed: VSp, VSt, VPl, VWh. -/
import Derived.Test.YtpjlajkjknkbaaaGreatDoorPg48
import Derived.Laws.EntriesVeiled
/- A read's step: its first word, its others, a refused one, one that is through; what a read tells; for reads that lie apart from their memory. -/
namespace Go.Proofs.YtpjlajkjknkbaaaGreatDoor
open Go.RowKit Go.Sort Go.Shelf
set_option linter.unusedVariables false
attribute [local go_sem] Oper.semAt_some
/-- What the end makes of a read whose words are n and t. -/
def endD (n : Nat) (t : List Nat) (d : Bool) : Bool := if t.length + 1 < cnt n then d else true
def endS (n : Nat) (t : List Nat) (S : ByteArray) : ByteArray := if t.length + 1 < cnt n then S else rdS n t
def endK (n : Nat) (t : List Nat) : Int := if t.length + 1 < cnt n then 0 else rdK n t
theorem vend_any {w : World} {B g b f n : Nat} {p : Option Addr} {t : List Nat} {S : ByteArray} {d : Bool} {k : Int} {V : Value} (hr : RdAt w B g b p f (n :: t) S d k V) (hlt : t.length + 1 ≤ cnt n) (hn : n ≤ 120) (hwd : Wrds t) :
    Calls Tryz.prog 70 #[.pointer (some ⟨g, 0, none⟩)] w fun e w' => e = .returned (.int .i64 (endK n t)) ∧ RdAt w' B g b p f (n :: t) (endS n t S) (endD n t d) k V ∧ But w w' (fun q => q = g) := by
  unfold endK endS endD
  by_cases h : t.length + 1 < cnt n
  · rw [if_pos h, if_pos h, if_pos h]
    exact (vend_more hr h).mono fun e w' ⟨he, hb⟩ => ⟨he, hr.below hb, But.of_below hb _⟩
  · rw [if_neg h, if_neg h, if_neg h]
    exact vend_done hr (by omega) hn hwd
/-- Where a read stands behind a word. -/
def MPost (w : World) (y : Lay) (V : Value) (s' : St) (B g b : Nat) (kk : Int) (ws' : List Nat) (S' : ByteArray) (d' : Bool) (k : Int) (w' : World) : Prop :=
  ∃ f' V', (f' = 45 ∨ f' = 69) ∧ (kk = 0 → f' = 69) ∧ RdAt w' B g b (some ⟨y.g, 0, none⟩) f' ws' S' d' k V' ∧ MemAt w' y s' ∧ But w w' (vrF y g V)
theorem MemAt.off {w w' : World} {y : Lay} {s : St} {B g : Nat} (h : MemAt w y s) (hs : Sep y B) (hg : B ≤ g) (hb : But w w' (fun q => q = g)) : MemAt w' y s :=
  h.but hb fun q hq e => by have := hs q hq; omega
theorem But.offG {w w1 w2 : World} {y : Lay} {B g : Nat} {V : Value} (h : But w w1 (vrF y g V)) (hg : B ≤ g) (hb : But w1 w2 (fun q => q = g)) : But w w2 (vrF y g V) :=
  h.trans (hb.mono (q := vrF y g V) fun q e => .inr (.inl e)) (fun _ h => .inl h)
set_option maxRecDepth 100000 in
set_option maxHeartbeats 1600000 in
theorem vlength_bad {w : World} {g : Nat} {kk : Int} (hk : kk ≠ 0)
    (H : Calls Tryz.prog 67 #[.pointer (some ⟨g, 0, none⟩)] w fun e w' => e = .returned (.int .i64 kk) ∧ Below w.heap.size w w') :
    Calls Tryz.prog 45 #[.pointer (some ⟨g, 0, none⟩)] w fun e w' => e = .returned (.int .i64 kk) ∧ Below w.heap.size w w' := by
  have H := Lib.hid H
  have k0 : (kk != 0) = true := by simp [bne, hk]
  have k1 : (kk == 0) = false := by simp [hk]
  clear hk
  go_enter Tryz.func45, Tryz.ntmps45
  go_wp2_with fail
  refine H.out.mono ?_
  rintro e w1 ⟨rfl, hb⟩
  have HB := Lib.hid hb
  clear hb H
  go_wp2
  go_ret
  exact ⟨rfl, HB.out⟩
set_option maxRecDepth 100000 in
set_option maxHeartbeats 1600000 in
theorem vbytes_bad {w : World} {g : Nat} {kk : Int} (hk : kk ≠ 0)
    (H : Calls Tryz.prog 67 #[.pointer (some ⟨g, 0, none⟩)] w fun e w' => e = .returned (.int .i64 kk) ∧ Below w.heap.size w w') :
    Calls Tryz.prog 69 #[.pointer (some ⟨g, 0, none⟩)] w fun e w' => e = .returned (.int .i64 kk) ∧ Below w.heap.size w w' := by
  have H := Lib.hid H
  have k0 : (kk != 0) = true := by simp [bne, hk]
  have k1 : (kk == 0) = false := by simp [hk]
  clear hk
  go_enter Tryz.func69, Tryz.ntmps69
  go_wp2_with fail
  refine H.out.mono ?_
  rintro e w1 ⟨rfl, hb⟩
  have HB := Lib.hid hb
  clear hb H
  go_wp2
  go_ret
  exact ⟨rfl, HB.out⟩
set_option maxRecDepth 100000 in
set_option maxHeartbeats 1600000 in
theorem vlength_big {w : World} {y : Lay} {s : St} (h : MemAt w y s) (ok : s.Ok) {B g b f x : Nat} {S : ByteArray} {d : Bool} {k : Int} {V : Value}
    (hr : RdAt w B g b (some ⟨y.g, 0, none⟩) f [] S d k V) (hf : f = 45 ∨ f = 69) (sep : Sep y B) (h8 : b % 8 = 0) (ha : b < 64 * s.nl) (hx : s.view.getD (b / 8) 0 = x) (hx1 : ¬ x ≤ 120) :
    Calls Tryz.prog 45 #[.pointer (some ⟨g, 0, none⟩)] w fun e w' => e = .returned (.int .i64 11) ∧ MPost w y V { s with ld := s.ld + 1 } B g b 11 [x] S d k w' := by
  have H := Lib.hid (vload_ok h ok hr sep h8 ha (by decide))
  rw [show (b + 8 * ([] : List Nat).length) / 8 = b / 8 from rfl, hx] at H
  have HC := Lib.hid fun (W : World) => vcount_any x W
  rw [cnt_no hx1] at HC
  have HF := Lib.hid hf
  clear h hr ok sep hx hx1 h8 ha hf
  go_enter Tryz.func45, Tryz.ntmps45
  go_wp2_with fail
  refine H.out.mono ?_
  rintro e w1 ⟨rfl, V1, hr1, hm1, hb1⟩
  obtain ⟨A, cap, rfl, hlc, hcm, hsl⟩ := hr1.val
  obtain ⟨a, rfl, hax⟩ := hsl.at_ (i := 0) (by simp)
  simp only [List.nil_append, List.map_cons, List.getElem_cons_zero, add_zero'] at hax
  unfold wv at hax
  have c3 := hr1.row.cell 3
  simp only [rdC, List.nil_append, List.length_singleton, List.getElem?_toArray, List.getElem?_cons_succ, List.getElem?_cons_zero] at c3
  have HR1 := Lib.hid hr1
  have HM1 := Lib.hid hm1
  have HB1 := Lib.hid hb1
  clear hr1 hm1 hb1 H hsl hlc hcm
  go_wp2_with fail
  refine (HC.out _).mono ?_
  rintro e w2 ⟨rfl, rfl⟩
  go_wp2
  go_ret
  exact ⟨rfl, f, _, HF.out, fun h => absurd h (by decide), HR1.out, HM1.out, HB1.out⟩
set_option maxRecDepth 100000 in
set_option maxHeartbeats 1600000 in
theorem vlength_ok {w : World} {y : Lay} {s : St} (h : MemAt w y s) (ok : s.Ok) {B g b f x : Nat} {S : ByteArray} {d : Bool} {k : Int} {V : Value}
    (hr : RdAt w B g b (some ⟨y.g, 0, none⟩) f [] S d k V) (sep : Sep y B) (h8 : b % 8 = 0) (ha : b < 64 * s.nl) (hx : s.view.getD (b / 8) 0 = x) (hx1 : x ≤ 120) :
    Calls Tryz.prog 45 #[.pointer (some ⟨g, 0, none⟩)] w fun e w' => e = .returned (.int .i64 (endK x [])) ∧ MPost w y V { s with ld := s.ld + 1 } B g b (endK x []) [x] (endS x [] S) (endD x [] d) k w' := by
  have H := Lib.hid (vload_ok h ok hr sep h8 ha (by decide))
  rw [show (b + 8 * ([] : List Nat).length) / 8 = b / 8 from rfl, hx] at H
  have HC := Lib.hid fun (W : World) => vcount_any x W
  have HE := Lib.hid fun (W : World) (V1 : Value) (hr : RdAt W B g b (some ⟨y.g, 0, none⟩) 69 (x :: []) S d k V1) => vend_any hr (by rw [cnt_yes hx1]; simp) hx1 (fun _ h => by cases h)
  have HX := Lib.hid hx1
  have HS := Lib.hid sep
  obtain ⟨c, hc⟩ : ∃ c, c = cnt x := ⟨_, rfl⟩
  rw [← hc] at HC
  have c0 : ((c : Int) == 0) = false := by rw [beq_eq_false_iff_ne, hc, cnt_yes hx1]; omega
  clear h hr ok sep hx hx1 h8 ha hc
  obtain ⟨K, hK⟩ : ∃ K, K = endK x [] := ⟨_, rfl⟩
  rw [← hK] at HE ⊢
  have HK := Lib.hid hK
  clear hK
  go_enter Tryz.func45, Tryz.ntmps45
  go_wp2_with fail
  refine H.out.mono ?_
  rintro e w1 ⟨rfl, V1, hr1, hm1, hb1⟩
  obtain ⟨A, cap, rfl, hlc, hcm, hsl⟩ := hr1.val
  obtain ⟨a, rfl, hax⟩ := hsl.at_ (i := 0) (by simp)
  simp only [List.nil_append, List.map_cons, List.getElem_cons_zero, add_zero'] at hax
  unfold wv at hax
  have c3 := hr1.row.cell 3
  have c2 := hr1.row.cell 2
  have f2 := hr1.row.free 2
  simp only [rdC, vF, List.nil_append, List.length_singleton, List.getElem?_toArray, List.getElem?_cons_succ, List.getElem?_cons_zero] at c3 c2
  have hr2 := hr1.set 2 (vF 69 g) (p' := some ⟨y.g, 0, none⟩) (f' := 69) (b' := b) (S' := S) (d' := d) (k' := k) rfl
  have HR2 := Lib.hid hr2
  have HE2 := Lib.hid (HE.out _ _ hr2)
  have HGB := Lib.hid hr1.gB
  have HM1 := Lib.hid hm1
  have HB1 := Lib.hid hb1
  clear hr1 hr2 hm1 hb1 H hsl hlc hcm HE
  go_wp2_with fail
  refine (HC.out _).mono ?_
  rintro e w2 ⟨rfl, rfl⟩
  go_wp2_with fail
  refine HE2.out.mono ?_
  rintro e w3 ⟨rfl, hr3, hb3⟩
  have HR3 := Lib.hid hr3
  have HB3 := Lib.hid hb3
  clear hr3 hb3
  go_wp2
  go_ret
  have hbs : But w1 (w1.setCell ⟨g, 2, none⟩ (vF 69 g)) (fun q => q = g) := (But.refl _ (fun q => q = g)).set (p := ⟨g, 2, none⟩) rfl _
  have hb := hbs.trans HB3.out (fun _ h => .inl h)
  exact ⟨rfl, 69, _, .inr rfl, fun _ => rfl, HR3.out, HM1.out.off HS.out HGB.out hb, HB1.out.offG HGB.out hb⟩
set_option maxRecDepth 100000 in
set_option maxHeartbeats 1600000 in
theorem vbytes_ok {w : World} {y : Lay} {s : St} (h : MemAt w y s) (ok : s.Ok) {B g b n x : Nat} {t : List Nat} {S : ByteArray} {d : Bool} {k : Int} {V : Value}
    (hr : RdAt w B g b (some ⟨y.g, 0, none⟩) 69 (n :: t) S d k V) (sep : Sep y B) (h8 : (b + 8 * (t.length + 1)) % 8 = 0) (ha : b + 8 * (t.length + 1) < 64 * s.nl) (hx : s.view.getD ((b + 8 * (t.length + 1)) / 8) 0 = x) (hn : n ≤ 120) (hc : t.length + 2 ≤ cnt n) (hwd : Wrds (t ++ [x])) :
    Calls Tryz.prog 69 #[.pointer (some ⟨g, 0, none⟩)] w fun e w' => e = .returned (.int .i64 (endK n (t ++ [x]))) ∧ MPost w y V { s with ld := s.ld + 1 } B g b (endK n (t ++ [x])) (n :: (t ++ [x])) (endS n (t ++ [x]) S) (endD n (t ++ [x]) d) k w' := by
  have H := Lib.hid (vload_ok h ok hr sep h8 ha (by have := cnt_le n; simp; omega))
  rw [show (b + 8 * (n :: t).length) / 8 = (b + 8 * (t.length + 1)) / 8 from rfl, hx] at H
  have HE := Lib.hid fun (W : World) (V1 : Value) (hr : RdAt W B g b (some ⟨y.g, 0, none⟩) 69 (n :: (t ++ [x])) S d k V1) => vend_any hr (by rw [List.length_append, List.length_singleton]; omega) hn hwd
  have HS := Lib.hid sep
  clear h hr ok sep hx hn h8 ha hc hwd
  obtain ⟨K, hK⟩ : ∃ K, K = endK n (t ++ [x]) := ⟨_, rfl⟩
  rw [← hK] at HE ⊢
  have HK := Lib.hid hK
  clear hK
  go_enter Tryz.func69, Tryz.ntmps69
  go_wp2_with fail
  refine H.out.mono ?_
  rintro e w1 ⟨rfl, V1, hr1, hm1, hb1⟩
  have HE2 := Lib.hid (HE.out _ _ hr1)
  have HGB := Lib.hid hr1.gB
  have HM1 := Lib.hid hm1
  have HB1 := Lib.hid hb1
  clear hr1 hm1 hb1 H HE
  go_wp2_with fail
  refine HE2.out.mono ?_
  rintro e w3 ⟨rfl, hr3, hb3⟩
  have HR3 := Lib.hid hr3
  have HB3 := Lib.hid hb3
  clear hr3 hb3
  go_wp2
  go_ret
  exact ⟨rfl, 69, _, .inr rfl, fun _ => rfl, HR3.out, HM1.out.off HS.out HGB.out HB3.out, HB1.out.offG HGB.out HB3.out⟩
end Go.Proofs.YtpjlajkjknkbaaaGreatDoor
/- A read made; its Step, of whatever it is to do next; what Value tells of it; for reads that lie apart from their memory. -/
namespace Go.Proofs.YtpjlajkjknkbaaaGreatDoor
open Go.RowKit Go.Sort Go.Shelf
set_option linter.unusedVariables false
attribute [local go_sem] Oper.semAt_some
theorem eqFnV (w : World) (g : Nat) (fi lb : Array Value) : (binOp .eql 63 (.func (.func g) fi lb) .nilFunc).run Tryz.prog w = .ok (.bool false) w := by kernel_rfl
theorem guardFnV (w : World) (g : Nat) (fi lb : Array Value) (x : Operand) : (eqGuard .eql 63 x (.const .nilFunc) (.func (.func g) fi lb) .nilFunc).run Tryz.prog w = .ok () w := by kernel_rfl
theorem callV {f : Nat} (h : f = 45 ∨ f = 69) (w : World) (v : Value) : (callFunc f #[v]).run Tryz.prog w = .ok (.enter f #[v]) w := by
  rcases h with rfl | rfl
  · exact Tryz.call45 _ _
  · exact Tryz.call69 _ _
/-- A read made. -/
theorem vNew_any {w : World} (p : Option Addr) (b : Nat) : Calls Tryz.prog 25 #[.pointer p, .int .u64 (b : Int)] w fun e w' => e = .returned (.pointer (some ⟨w.heap.size, 0, none⟩)) ∧ RdAt w' w.heap.size w.heap.size b p 45 [] ⟨#[]⟩ false 0 (.slice none 0 0) ∧ Below w.heap.size w w' := by
  obtain ⟨W1, hW1⟩ : ∃ W1, W1 = w.alloc (.cells #[.pointer p, .int .u64 (b : Int), .nilFunc, .slice none 0 0, .string ⟨#[]⟩, .bool false, .int .i64 0] 113) := ⟨_, rfl⟩
  obtain ⟨g, hg⟩ : ∃ g, g = w.heap.size := ⟨_, rfl⟩
  have hr : Row W1 g 113 #[.pointer p, .int .u64 (b : Int), .nilFunc, .slice none 0 0, .string ⟨#[]⟩, .bool false, .int .i64 0] := by rw [hW1]; exact rowAt hg
  have c2 := hr.cell 2
  have f2 := hr.free 2
  simp only [List.getElem?_toArray, List.getElem?_cons_succ, List.getElem?_cons_zero] at c2
  have hb : Below g w W1 := by rw [hW1, hg]; exact alloc_below _ _
  have HR := Lib.hid (hr.set 2 (.func (.func 45) #[.pointer (some ⟨g, 0, none⟩)] #[]))
  have HB := Lib.hid (hb.setCell (p := ⟨g, 2, none⟩) (Nat.le_refl _) (.func (.func 45) #[.pointer (some ⟨g, 0, none⟩)] #[]))
  have HW := Lib.hid hW1
  have HG := Lib.hid hg
  rw [← hg]
  clear hr hb hW1 hg
  go_enter Tryz.func25, Tryz.ntmps25
  go_wp2_with (rw [← HW.out, ← HG.out])
  go_ret
  exact ⟨rfl, ⟨HR.out, World.ownsRow_nil _ _ _ _, Nat.le_refl _⟩, HB.out⟩
/-- What a step makes of the world behind its function's call. -/
def vstW (w1 : World) (g : Nat) (d : Bool) (k : Int) : World := (w1.setCell ⟨g, 6, none⟩ (.int .i64 k)).setCell ⟨g, 5, none⟩ (.bool d)
def VStPost (B g b : Nat) (p : Option Addr) (F : Nat → Prop) (ws' : List Nat) (S' : ByteArray) (D : Bool) (kk : Int) (P : World → Prop) (e : Ending) (w' : World) : Prop :=
  e = .returned (.tuple #[.bool D, .int .i64 kk]) ∧ ∃ f' V' w1, F f' ∧ RdAt w' B g b p f' ws' S' D kk V' ∧ P w1 ∧ But w1 w' (fun q => q = g)
set_option maxRecDepth 100000 in
set_option maxHeartbeats 1600000 in
theorem vstep_of {w : World} {B g b f : Nat} {p : Option Addr} {ws ws' : List Nat} {S S' : ByteArray} {k kk : Int} {d : Bool} {V : Value} {F : Nat → Prop} {P : World → Prop}
    (hcall : ∀ (w : World) (v : Value), (callFunc f #[v]).run Tryz.prog w = .ok (.enter f #[v]) w) (hr : RdAt w B g b p f ws S false k V)
    (H : Calls Tryz.prog f #[.pointer (some ⟨g, 0, none⟩)] w fun e w' => e = .returned (.int .i64 kk) ∧ (∃ f' V' k', F f' ∧ RdAt w' B g b p f' ws' S' d k' V') ∧ P w') :
    Calls Tryz.prog 194 #[.pointer (some ⟨g, 0, none⟩)] w (VStPost B g b p F ws' S' (d || !(kk == 0)) kk P) := by
  have mixed : Tryz.prog.follows .mixedOrders = true := by kernel_rfl
  have c4 := hr.row.cell 2
  have c5 := hr.row.cell 5
  simp only [rdC, vF, List.getElem?_toArray, List.getElem?_cons_succ, List.getElem?_cons_zero] at c4 c5
  have q1 := fun w => eqFnV w f #[.pointer (some ⟨g, 0, none⟩)] #[]
  have q2 := fun w => guardFnV w f #[.pointer (some ⟨g, 0, none⟩)] #[] (.tmp 11)
  have H := Lib.hid H
  clear hr
  obtain ⟨D, hD⟩ : ∃ D, D = (d || !(kk == 0)) := ⟨_, rfl⟩
  rw [← hD]
  have key : (d = true ∧ D = true) ∨ (d = false ∧ kk = 0 ∧ D = false) ∨ (d = false ∧ (kk != 0) = true ∧ D = true) := by
    cases d with
    | true => exact .inl ⟨rfl, by rw [hD]; rfl⟩
    | false =>
      by_cases h : kk = 0
      · exact .inr (.inl ⟨rfl, h, by rw [hD, h]; rfl⟩)
      · exact .inr (.inr ⟨rfl, by simp [bne, h], by rw [hD]; simp [h]⟩)
  clear hD
  have KEY := Lib.hid key
  clear key
  go_enter Tryz.func194, Tryz.ntmps194
  go_wp2_with fail
  refine H.out.mono ?_
  rintro e w1 ⟨rfl, ⟨f', V', k', hF, hr1⟩, hp⟩
  have d5 := hr1.row.cell 5
  have d6 := hr1.row.cell 6
  simp only [rdC, vF, List.getElem?_toArray, List.getElem?_cons_succ, List.getElem?_cons_zero] at d5 d6
  have g5 := hr1.row.free 5
  have g6 := hr1.row.free 6
  have HP := Lib.hid hp
  have HR := Lib.hid hr1
  have HF := Lib.hid hF
  clear hp hr1 c4 c5 q1 q2 H hF
  rcases KEY.out with ⟨rfl, rfl⟩ | ⟨rfl, rfl, rfl⟩ | ⟨rfl, hk2, rfl⟩
  · go_wp2_with fail
    obtain ⟨W2, hW2⟩ : ∃ W2, W2 = vstW w1 g true kk := ⟨_, rfl⟩
    have hr2 : RdAt W2 B g b p f' ws' S' true kk V' := by
      rw [hW2]
      exact (HR.out.set 6 (.int .i64 kk) (p' := p) (f' := f') (b' := b) (S' := S') (d' := true) (k' := kk) rfl).set 5 (.bool true) rfl
    have hb2 : But w1 W2 (fun q => q = g) := by
      rw [hW2]
      exact ((But.refl w1 (fun q => q = g)).set (p := ⟨g, 6, none⟩) rfl _).set (p := ⟨g, 5, none⟩) rfl _
    unfold vstW at hW2
    rw [← hW2]
    have k5 := hr2.row.cell 5
    have k6 := hr2.row.cell 6
    simp only [rdC, vF, List.getElem?_toArray, List.getElem?_cons_succ, List.getElem?_cons_zero] at k5 k6
    have ca := fun p : LowBy W2 => p.cell k5
    have cb := fun p : LowBy W2 => p.cell k6
    have HR2 := Lib.hid hr2
    have HB2 := Lib.hid hb2
    clear hr2 hb2 k5 k6 hW2 d5 d6 g5 g6
    refine wp_region_quiet_low (by assumption) (by kernel_rfl) ?_
    repeat (go_big_quiet_step (fail))
    refine wpQuiet_nil ?_
    intro _ hw'
    obtain ⟨p, hw''⟩ := hw'
    subst hw''
    have hp := Lib.hid p.low
    clear ca cb
    go_wp2
    go_ret2
    exact ⟨by rfl, f', V', w1, HF.out, HR2.out.below hp.out, HP.out, HB2.out.trans (But.of_below hp.out (fun q => q = g)) (fun _ h => .inl h)⟩
  · go_wp2_with fail
    obtain ⟨W2, hW2⟩ : ∃ W2, W2 = vstW w1 g false 0 := ⟨_, rfl⟩
    have hr2 : RdAt W2 B g b p f' ws' S' false 0 V' := by
      rw [hW2]
      exact (HR.out.set 6 (.int .i64 0) (p' := p) (f' := f') (b' := b) (S' := S') (d' := false) (k' := 0) rfl).set 5 (.bool false) rfl
    have hb2 : But w1 W2 (fun q => q = g) := by
      rw [hW2]
      exact ((But.refl w1 (fun q => q = g)).set (p := ⟨g, 6, none⟩) rfl _).set (p := ⟨g, 5, none⟩) rfl _
    unfold vstW at hW2
    rw [← hW2]
    have k5 := hr2.row.cell 5
    have k6 := hr2.row.cell 6
    simp only [rdC, vF, List.getElem?_toArray, List.getElem?_cons_succ, List.getElem?_cons_zero] at k5 k6
    have ca := fun p : LowBy W2 => p.cell k5
    have cb := fun p : LowBy W2 => p.cell k6
    have HR2 := Lib.hid hr2
    have HB2 := Lib.hid hb2
    clear hr2 hb2 k5 k6 hW2 d5 d6 g5 g6
    refine wp_region_quiet_low (by assumption) (by kernel_rfl) ?_
    repeat (go_big_quiet_step (fail))
    refine wpQuiet_nil ?_
    intro _ hw'
    obtain ⟨p, hw''⟩ := hw'
    subst hw''
    have hp := Lib.hid p.low
    clear ca cb
    go_wp2
    go_ret2
    exact ⟨by rfl, f', V', w1, HF.out, HR2.out.below hp.out, HP.out, HB2.out.trans (But.of_below hp.out (fun q => q = g)) (fun _ h => .inl h)⟩
  · go_wp2_with fail
    obtain ⟨W2, hW2⟩ : ∃ W2, W2 = vstW w1 g true kk := ⟨_, rfl⟩
    have hr2 : RdAt W2 B g b p f' ws' S' true kk V' := by
      rw [hW2]
      exact (HR.out.set 6 (.int .i64 kk) (p' := p) (f' := f') (b' := b) (S' := S') (d' := false) (k' := kk) rfl).set 5 (.bool true) rfl
    have hb2 : But w1 W2 (fun q => q = g) := by
      rw [hW2]
      exact ((But.refl w1 (fun q => q = g)).set (p := ⟨g, 6, none⟩) rfl _).set (p := ⟨g, 5, none⟩) rfl _
    unfold vstW at hW2
    rw [← hW2]
    have k5 := hr2.row.cell 5
    have k6 := hr2.row.cell 6
    simp only [rdC, vF, List.getElem?_toArray, List.getElem?_cons_succ, List.getElem?_cons_zero] at k5 k6
    have ca := fun p : LowBy W2 => p.cell k5
    have cb := fun p : LowBy W2 => p.cell k6
    have HR2 := Lib.hid hr2
    have HB2 := Lib.hid hb2
    clear hr2 hb2 k5 k6 hW2 d5 d6 g5 g6
    refine wp_region_quiet_low (by assumption) (by kernel_rfl) ?_
    repeat (go_big_quiet_step (fail))
    refine wpQuiet_nil ?_
    intro _ hw'
    obtain ⟨p, hw''⟩ := hw'
    subst hw''
    have hp := Lib.hid p.low
    clear ca cb
    go_wp2
    go_ret2
    exact ⟨by rfl, f', V', w1, HF.out, HR2.out.below hp.out, HP.out, HB2.out.trans (But.of_below hp.out (fun q => q = g)) (fun _ h => .inl h)⟩
set_option maxRecDepth 100000 in
set_option maxHeartbeats 1600000 in
theorem vValue_done {w : World} {B g b f : Nat} {p : Option Addr} {ws : List Nat} {S : ByteArray} {k : Int} {V : Value} (hr : RdAt w B g b p f ws S true k V) :
    Calls Tryz.prog 28 #[.pointer (some ⟨g, 0, none⟩)] w fun e w' => e = .returned (.tuple #[.string S, .int .i64 k]) ∧ Below w.heap.size w w' := by
  have mixed : Tryz.prog.follows .mixedOrders = true := by kernel_rfl
  have c2 := hr.row.cell 2
  have c4 := hr.row.cell 4
  have c5 := hr.row.cell 5
  have c6 := hr.row.cell 6
  simp only [rdC, vF, List.getElem?_toArray, List.getElem?_cons_succ, List.getElem?_cons_zero] at c2 c4 c5 c6
  have q1 := fun w => eqFnV w f #[.pointer (some ⟨g, 0, none⟩)] #[]
  have q2 := fun w => guardFnV w f #[.pointer (some ⟨g, 0, none⟩)] #[] (.tmp 11)
  have ca := fun p : LowBy w => p.cell c6
  have cb := fun p : LowBy w => p.cell c4
  clear hr
  go_enter Tryz.func28, Tryz.ntmps28
  go_wp2_with fail
  refine wp_region_quiet_low (by assumption) (by kernel_rfl) ?_
  repeat (go_big_quiet_step (fail))
  refine wpQuiet_nil ?_
  intro _ hw'
  obtain ⟨p, hw''⟩ := hw'
  subst hw''
  have hp := Lib.hid p.low
  clear ca cb
  go_wp2
  go_ret2
  exact ⟨rfl, hp.out⟩
end Go.Proofs.YtpjlajkjknkbaaaGreatDoor
/- A read, in plain words: what comes next, and what it comes to; no conditions. -/
namespace Go.Proofs.YtpjlajkjknkbaaaGreatDoor
open Go.RowKit Go.Sort Go.Shelf
set_option linter.unusedVariables false
/-- The word that stands at an address. -/
def ldW (vl : List Nat) (a : Nat) : Option Nat := if a % 8 = 0 ∧ a < 8 * vl.length then some (vl.getD (a / 8) 0) else none
structure Nx where
  ws : List Nat
  S : ByteArray
  d : Bool
  k : Int
/-- What a step makes of a read of these words. -/
def nxt (vl : List Nat) (b : Nat) (ws : List Nat) : Nx :=
  match ldW vl (b + 8 * ws.length) with
  | none => ⟨ws, ⟨#[]⟩, true, 3⟩
  | some x => match ws with
    | [] => if x ≤ 120 then ⟨[x], endS x [] ⟨#[]⟩, endD x [] false || !(endK x [] == 0), endK x []⟩ else ⟨[x], ⟨#[]⟩, true, 11⟩
    | n :: t => ⟨n :: (t ++ [x]), endS n (t ++ [x]) ⟨#[]⟩, endD n (t ++ [x]) false || !(endK n (t ++ [x]) == 0), endK n (t ++ [x])⟩
/-- What a read at b comes to. -/
def stK (vl : List Nat) (b : Nat) : Int :=
  if b % 8 ≠ 0 ∨ 8 * vl.length ≤ b then 3 else if ¬ vl.getD (b / 8) 0 ≤ 120 then 11 else if 8 * vl.length < b + 8 * cnt (vl.getD (b / 8) 0) then 3
  else rdK (vl.getD (b / 8) 0) ((vl.drop (b / 8 + 1)).take (cnt (vl.getD (b / 8) 0) - 1))
def stS (vl : List Nat) (b : Nat) : ByteArray :=
  if b % 8 ≠ 0 ∨ 8 * vl.length ≤ b then ⟨#[]⟩ else if ¬ vl.getD (b / 8) 0 ≤ 120 then ⟨#[]⟩ else if 8 * vl.length < b + 8 * cnt (vl.getD (b / 8) 0) then ⟨#[]⟩
  else rdS (vl.getD (b / 8) 0) ((vl.drop (b / 8 + 1)).take (cnt (vl.getD (b / 8) 0) - 1))
/-- A read under way: its words are the first ones. -/
def RdOk (vl : List Nat) (b : Nat) (ws : List Nat) : Prop :=
  ws = [] ∨ ∃ n t, ws = n :: t ∧ n ≤ 120 ∧ t.length + 1 < cnt n ∧ b % 8 = 0 ∧ b + 8 * (t.length + 1) ≤ 8 * vl.length ∧ n = vl.getD (b / 8) 0 ∧ t = (vl.drop (b / 8 + 1)).take t.length
theorem take_snoc12 (l : List Nat) (i m : Nat) (h : i + m < l.length) : (l.drop i).take m ++ [l.getD (i + m) 0] = (l.drop i).take (m + 1) := by
  rw [List.take_add_one, List.getElem?_drop, List.getElem?_eq_getElem h, List.getD_eq_getElem?_getD, List.getElem?_eq_getElem h]
  rfl
theorem nxt_spec {vl : List Nat} {b : Nat} {ws : List Nat} (h : RdOk vl b ws) :
    ((nxt vl b ws).d = true → (nxt vl b ws).S = stS vl b ∧ (nxt vl b ws).k = stK vl b ∧ (stK vl b = 0 → ws.length + 1 = cnt (vl.getD (b / 8) 0) ∧ vl.getD (b / 8) 0 ≤ 120)) ∧ ((nxt vl b ws).d = false → (nxt vl b ws).k = 0 ∧ (nxt vl b ws).S = ⟨#[]⟩ ∧ RdOk vl b (nxt vl b ws).ws ∧ (nxt vl b ws).ws.length = ws.length + 1) ∧ ws.length < 16 := by
  rcases h with rfl | ⟨n, t, rfl, hn, hlt, h8, hb, hv, ht⟩
  · refine ⟨?_, ?_, by decide⟩
    all_goals
      unfold nxt ldW
      try unfold stS stK
      simp only [List.length_nil, Nat.mul_zero, Nat.add_zero]
      by_cases hr : b % 8 = 0 ∧ b < 8 * vl.length
      · rw [if_pos hr]
        have hno : ¬ (b % 8 ≠ 0 ∨ 8 * vl.length ≤ b) := by omega
        dsimp only
        by_cases hx : vl.getD (b / 8) 0 ≤ 120
        · rw [if_pos hx]
          dsimp only
          have hc := cnt_yes hx
          unfold endD endS endK
          simp only [List.length_nil, Nat.zero_add]
          by_cases h1 : 1 < cnt (vl.getD (b / 8) 0)
          · rw [if_pos h1, if_pos h1, if_pos h1]
            intro hd
            first
              | (simp at hd; done)
              | exact ⟨rfl, rfl, .inr ⟨_, [], rfl, hx, by simpa using h1, hr.1, by simp; omega, rfl, rfl⟩, by simp⟩
          · have hc1 : cnt (vl.getD (b / 8) 0) = 1 := by omega
            rw [if_neg h1, if_neg h1, if_neg h1]
            intro hd
            first
              | (simp at hd; done)
              | (rw [if_neg hno, if_neg (Decidable.not_not.2 hx), if_neg (by omega), if_neg hno, if_neg (Decidable.not_not.2 hx), if_neg (by omega), hc1]; exact ⟨rfl, rfl, fun _ => ⟨by omega, hx⟩⟩)
        · rw [if_neg hx]
          dsimp only
          intro hd
          first
            | (simp at hd; done)
            | (rw [if_neg hno, if_pos hx, if_neg hno, if_pos hx]; exact ⟨rfl, rfl, fun h => absurd h (by decide)⟩)
      · rw [if_neg hr]
        have hno : (b % 8 ≠ 0 ∨ 8 * vl.length ≤ b) := by omega
        dsimp only
        intro hd
        first
          | (simp at hd; done)
          | (rw [if_pos hno, if_pos hno]; exact ⟨rfl, rfl, fun h => absurd h (by decide)⟩)
  · have hc16 := cnt_le n
    refine ⟨?_, ?_, by simp; omega⟩
    all_goals
      unfold nxt ldW
      have e8 : (b + 8 * (t.length + 1)) / 8 = b / 8 + 1 + t.length := by omega
      have hno : ¬ (b % 8 ≠ 0 ∨ 8 * vl.length ≤ b) := by omega
      simp only [List.length_cons]
      by_cases hr : (b + 8 * (t.length + 1)) % 8 = 0 ∧ b + 8 * (t.length + 1) < 8 * vl.length
      · rw [if_pos hr, e8]
        dsimp only
        have hs := take_snoc12 vl (b / 8 + 1) t.length (by omega)
        rw [← ht] at hs
        have hl : (t ++ [vl.getD (b / 8 + 1 + t.length) 0]).length = t.length + 1 := by simp
        unfold endD endS endK
        rw [hl]
        by_cases h1 : t.length + 1 + 1 < cnt n
        · rw [if_pos h1, if_pos h1, if_pos h1]
          intro hd
          first
            | (simp at hd; done)
            | exact ⟨rfl, rfl, .inr ⟨_, _, rfl, hn, by rw [hl]; exact h1, h8, by rw [hl]; omega, hv, by rw [hl]; exact hs⟩, by simp⟩
        · rw [if_neg h1, if_neg h1, if_neg h1]
          intro hd
          first
            | (simp at hd; done)
            | (unfold stS stK
               rw [if_neg hno, ← hv, if_neg (Decidable.not_not.2 hn), if_neg (by omega), if_neg hno, if_neg (Decidable.not_not.2 hn), if_neg (by omega), hs, show cnt n - 1 = t.length + 1 from by omega]
               exact ⟨rfl, rfl, fun _ => ⟨by omega, hn⟩⟩)
      · rw [if_neg hr]
        dsimp only
        intro hd
        first
          | (simp at hd; done)
          | (unfold stS stK
             rw [if_neg hno, ← hv, if_neg (Decidable.not_not.2 hn), if_pos (by omega), if_neg hno, if_neg (Decidable.not_not.2 hn), if_pos (by omega)]
             exact ⟨rfl, rfl, fun h => absurd h (by decide)⟩)
end Go.Proofs.YtpjlajkjknkbaaaGreatDoor
/- A read's step in a memory, and its whole, as the law does it; for reads that lie apart from their memory. -/
namespace Go.Proofs.YtpjlajkjknkbaaaGreatDoor
open Go.RowKit Go.Sort Go.Shelf
set_option linter.unusedVariables false
def FOk (f : Nat) (ws : List Nat) : Prop := (ws = [] ∧ f = 45) ∨ (ws ≠ [] ∧ f = 69)
theorem FOk.or {f : Nat} {ws : List Nat} (h : FOk f ws) : f = 45 ∨ f = 69 := by
  rcases h with ⟨_, h⟩ | ⟨_, h⟩
  · exact .inl h
  · exact .inr h
theorem St.Ok.ldTo {s : St} (h : s.Ok) {l : Nat} (hl : l < 9223372036854775808) : ({ s with ld := l } : St).Ok := ⟨h.las, h.vie, h.put, h.few, h.mks, ⟨hl, h.num.2.1, h.num.2.2.1, h.num.2.2.2⟩⟩
/-- What a step makes of a read in a memory. -/
def NxPost (w : World) (y : Lay) (V : Value) (s : St) (B g b : Nat) (r : Nx) (e : Ending) (w' : World) : Prop :=
  e = .returned (.tuple #[.bool r.d, .int .i64 r.k]) ∧ ∃ f' V' l, s.ld ≤ l ∧ l ≤ s.ld + 1 ∧ (f' = 45 ∨ f' = 69) ∧ (r.d = false → f' = 69) ∧ RdAt w' B g b (some ⟨y.g, 0, none⟩) f' r.ws r.S r.d r.k V' ∧ MemAt w' y { s with ld := l } ∧ But w w' (vrF y g V)
/-- The same, from B on. -/
def NxPostB (w : World) (y : Lay) (s : St) (B g b : Nat) (r : Nx) (e : Ending) (w' : World) : Prop :=
  e = .returned (.tuple #[.bool r.d, .int .i64 r.k]) ∧ ∃ f' V' l, s.ld ≤ l ∧ l ≤ s.ld + 1 ∧ (f' = 45 ∨ f' = 69) ∧ (r.d = false → f' = 69) ∧ RdAt w' B g b (some ⟨y.g, 0, none⟩) f' r.ws r.S r.d r.k V' ∧ MemAt w' y { s with ld := l } ∧ But w w' (rdFp y B)
theorem NxPost.b {w : World} {y : Lay} {V : Value} {s : St} {B g b b' f : Nat} {p : Option Addr} {ws : List Nat} {S : ByteArray} {d : Bool} {k : Int} {r : Nx} {e : Ending} {w' : World} (hr : RdAt w B g b' p f ws S d k V) (h : NxPost w y V s B g b r e w') : NxPostB w y s B g b r e w' := by
  obtain ⟨h0, f', V', l, h1, h2, h3, h4, h5, h6, h7⟩ := h
  exact ⟨h0, f', V', l, h1, h2, h3, h4, h5, h6, h7.mono (vrF_fp hr)⟩
theorem nxpost_mk {w : World} {y : Lay} {V : Value} {s : St} {B g b l : Nat} {r : Nx} {F : Nat → Prop} {P : World → Prop} (sep : Sep y B) (hg : B ≤ g) (h1 : s.ld ≤ l) (h2 : l ≤ s.ld + 1) (hF : ∀ f, F f → (f = 45 ∨ f = 69) ∧ (r.d = false → f = 69))
    (hP : ∀ W, P W → MemAt W y { s with ld := l } ∧ But w W (vrF y g V)) {e : Ending} {w' : World} (h : VStPost B g b (some ⟨y.g, 0, none⟩) F r.ws r.S r.d r.k P e w') : NxPost w y V s B g b r e w' := by
  obtain ⟨he, f', V', w1, hf, hr, hp, hb⟩ := h
  have := hP _ hp
  exact ⟨he, f', V', l, h1, h2, (hF _ hf).1, (hF _ hf).2, hr, this.1.off sep hg hb, this.2.offG hg hb⟩
theorem endD_k {n : Nat} {t : List Nat} (h : (endD n t false || !(endK n t == 0)) = false) : endK n t = 0 := by
  simp at h
  exact h.2
theorem vstep_any {w : World} {y : Lay} {s : St} (h : MemAt w y s) (ok : s.Ok) {B g b f : Nat} {ws : List Nat} {V : Value}
    (hr : RdAt w B g b (some ⟨y.g, 0, none⟩) f ws ⟨#[]⟩ false 0 V) (hf : FOk f ws) (sep : Sep y B) (hR : RdOk s.view b ws) (hvl : s.view.length = 8 * s.nl) (hb : b < 18446744073709551616) :
    Calls Tryz.prog 194 #[.pointer (some ⟨g, 0, none⟩)] w (NxPost w y V s B g b (nxt s.view b ws)) := by
  have hmost := h.most
  have hw64 : b + 8 * ws.length < 18446744073709551616 := by
    rcases hR with rfl | ⟨n, t, rfl, _, _, _, h1, _⟩
    · simpa using hb
    · simp; omega
  by_cases hin : (b + 8 * ws.length) % 8 = 0 ∧ b + 8 * ws.length < 8 * s.view.length
  · have hld : ldW s.view (b + 8 * ws.length) = some (s.view.getD ((b + 8 * ws.length) / 8) 0) := if_pos hin
    rcases hR with rfl | ⟨n, t, rfl, hn, hlt, h8, hbl, hv, ht⟩
    · obtain ⟨x, hx⟩ : ∃ x, x = s.view.getD (b / 8) 0 := ⟨_, rfl⟩
      have hld' : ldW s.view (b + 8 * ([] : List Nat).length) = some x := by rw [hld, hx]; rfl
      obtain rfl : f = 45 := by
        rcases hf with ⟨_, h⟩ | ⟨h, _⟩
        · exact h
        · exact absurd rfl h
      have h8 : b % 8 = 0 := by simpa using hin.1
      have hlt : b < 64 * s.nl := by have := hin.2; simp at this; omega
      by_cases hx1 : x ≤ 120
      · have hnx : nxt s.view b [] = ⟨[x], endS x [] ⟨#[]⟩, endD x [] false || !(endK x [] == 0), endK x []⟩ := by
          unfold nxt; rw [hld']; exact if_pos hx1
        rw [hnx]
        refine (vstep_of (P := fun w' => MemAt w' y { s with ld := s.ld + 1 } ∧ But w w' (vrF y g V)) (F := fun f' => (f' = 45 ∨ f' = 69) ∧ (endK x [] = 0 → f' = 69)) (callV (.inl rfl)) hr ((vlength_ok h ok hr sep h8 hlt hx.symm hx1).mono fun e w' ⟨he, f', V', h1, h2, h3, h4, h5⟩ => ⟨he, ⟨f', V', 0, ⟨h1, h2⟩, h3⟩, h4, h5⟩)).mono fun e w' hp => nxpost_mk sep hr.gB (Nat.le_succ _) (Nat.le_refl _) (fun f hF => ⟨hF.1, fun hd => hF.2 (endD_k hd)⟩) (fun W h => h) hp
      · have hnx : nxt s.view b [] = ⟨[x], ⟨#[]⟩, true, 11⟩ := by
          unfold nxt; rw [hld']; exact if_neg hx1
        rw [hnx]
        refine (vstep_of (P := fun w' => MemAt w' y { s with ld := s.ld + 1 } ∧ But w w' (vrF y g V)) (F := fun f' => (f' = 45 ∨ f' = 69) ∧ ((11 : Int) = 0 → f' = 69)) (callV (.inl rfl)) hr ((vlength_big h ok hr (.inl rfl) sep h8 hlt hx.symm hx1).mono fun e w' ⟨he, f', V', h1, h2, h3, h4, h5⟩ => ⟨he, ⟨f', V', 0, ⟨h1, h2⟩, h3⟩, h4, h5⟩)).mono fun e w' hp => nxpost_mk (l := s.ld + 1) sep hr.gB (Nat.le_succ _) (Nat.le_refl _) (fun f hF => ⟨hF.1, fun hd => by cases hd⟩) (fun W h => h) hp
    · obtain ⟨x, hx⟩ : ∃ x, x = s.view.getD ((b + 8 * (t.length + 1)) / 8) 0 := ⟨_, rfl⟩
      have hld' : ldW s.view (b + 8 * (n :: t).length) = some x := by rw [hld, hx]; rfl
      obtain rfl : f = 69 := by
        rcases hf with ⟨h, _⟩ | ⟨_, h⟩
        · cases h
        · exact h
      have hin1 : (b + 8 * (t.length + 1)) % 8 = 0 := hin.1
      have hin2 : b + 8 * (t.length + 1) < 64 * s.nl := by have : b + 8 * (t.length + 1) < 8 * s.view.length := hin.2; omega
      have hwd : Wrds (t ++ [x]) := by
        intro z hz
        rcases List.mem_append.1 hz with hz | hz
        · rw [ht] at hz
          exact ok.vie z (List.mem_of_mem_drop (List.mem_of_mem_take hz))
        · obtain rfl := List.mem_singleton.1 hz
          rw [hx, getD_at (by omega)]
          exact ok.vie _ (List.getElem_mem _)
      have hnx : nxt s.view b (n :: t) = ⟨n :: (t ++ [x]), endS n (t ++ [x]) ⟨#[]⟩, endD n (t ++ [x]) false || !(endK n (t ++ [x]) == 0), endK n (t ++ [x])⟩ := by
        unfold nxt; rw [hld']
      rw [hnx]
      refine (vstep_of (P := fun w' => MemAt w' y { s with ld := s.ld + 1 } ∧ But w w' (vrF y g V)) (F := fun f' => (f' = 45 ∨ f' = 69) ∧ (endK n (t ++ [x]) = 0 → f' = 69)) (callV (.inr rfl)) hr ((vbytes_ok h ok hr sep hin1 hin2 hx.symm hn (by omega) hwd).mono fun e w' ⟨he, f', V', h1, h2, h3, h4, h5⟩ => ⟨he, ⟨f', V', 0, ⟨h1, h2⟩, h3⟩, h4, h5⟩)).mono fun e w' hp => nxpost_mk sep hr.gB (Nat.le_succ _) (Nat.le_refl _) (fun f hF => ⟨hF.1, fun hd => hF.2 (endD_k hd)⟩) (fun W h => h) hp
  · have hld : ldW s.view (b + 8 * ws.length) = none := if_neg hin
    have hnx : nxt s.view b ws = ⟨ws, ⟨#[]⟩, true, 3⟩ := by unfold nxt; rw [hld]
    rw [hnx]
    have hbad := vload_bad (kk := 3) hr (by decide) hw64 (fun q => load_range (h.below q.low) (b + 8 * ws.length) (by omega))
    have H : Calls Tryz.prog f #[.pointer (some ⟨g, 0, none⟩)] w fun e w' => e = .returned (.int .i64 3) ∧ Below w.heap.size w w' := by
      rcases hf.or with rfl | rfl
      · exact vlength_bad (by decide) hbad
      · exact vbytes_bad (by decide) hbad
    refine (vstep_of (kk := 3) (d := false) (P := fun w' => MemAt w' y { s with ld := s.ld } ∧ But w w' (vrF y g V)) (F := fun f' => f' = f) (callV hf.or) hr (H.mono fun e w' ⟨he, hb⟩ => ⟨he, ⟨f, V, 0, rfl, hr.below hb⟩, h.below hb, But.of_below hb _⟩)).mono fun e w' hp => nxpost_mk (l := s.ld) sep hr.gB (Nat.le_refl _) (Nat.le_succ _) (fun f' hF => ⟨by rw [hF]; exact hf.or, fun hd => by cases hd⟩) (fun W h => h) hp
end Go.Proofs.YtpjlajkjknkbaaaGreatDoor
