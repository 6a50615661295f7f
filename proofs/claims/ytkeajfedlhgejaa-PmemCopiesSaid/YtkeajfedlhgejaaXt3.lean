/- What goes on from a packed claim: R2TG,R2Cs,R2CsW. -/
import Derived.Test.YtkeajfedlhgejaaPcRAllC
import Derived.Test.YtkeajfedlhgejaaXt1
import Derived.Test.YtkeajfedlhgejaaXt2
import Derived.Deep.QuietTactic
import Derived.Deep.DeepCutAuto
import Derived.Deep.CutBlock
/- Two games side by side, apart: an act on the one leaves the other; for memories of at most eight lines. -/
namespace Go.Proofs.Ytkeajfedlhgejaa
open Go Go.RowKit
set_option linter.unusedVariables false
def FG (gg : Nat) (y : Lay) (g : Nat) (vF vL : Value) (ms : List Value) (k : Nat) : Prop := k = gg ∨ y.fp k ∨ fp2 g vF vL ms k
theorem G3.fgl {w : World} {gg : Nat} {y : Lay} {s : St} {g : Nat} {r : Rf} {vF vL : Value} {ms : List Value} (h : G3 w gg y s g r vF vL ms) : ∀ k, FG gg y g vF vL ms k → k < w.heap.size := by
  rintro k (rfl | hk | hk)
  · exact h.row.lt
  · exact h.m.lt k hk
  · exact h.d.lt k hk
theorem G3.same {w w' : World} {gg : Nat} {y : Lay} {s : St} {g : Nat} {r : Rf} {vF vL : Value} {ms : List Value} (h : G3 w gg y s g r vF vL ms) (hk : ∀ k, FG gg y g vF vL ms k → w'.heap[k]? = w.heap[k]?) : G3 w' gg y s g r vF vL ms :=
  ⟨h.row.same (hk _ (.inl rfl)), h.m.same fun k q => hk k (.inr (.inl q)), h.d.same fun k q => hk k (.inr (.inr q))⟩
structure TG (w : World) (gg hh nl m : Nat) (wr : World) (s : St) (r : Rf) (s2 : St) (r2 : Rf) : Prop where
  ex : ∃ y g vF vL ms y' g' vF' vL' ms', G3 wr gg y s g r vF vL ms ∧ G3 wr hh y' s2 g' r2 vF' vL' ms' ∧ (∀ k, FG gg y g vF vL ms k → w.heap.size ≤ k ∧ ¬ FG hh y' g' vF' vL' ms' k) ∧ ∀ k, FG hh y' g' vF' vL' ms' k → w.heap.size ≤ k
  rel : RelAt s r
  rel2 : RelAt s2 r2
  sm : Sm2 r m
  sm2 : Sm2 r2 m
  en : s.nl = nl
  en2 : s2.nl = nl
  low : Below w.heap.size w wr
section
variable {w wr w' : World} {gg hh nl m : Nat} {s s2 : St} {r r2 : Rf}
theorem TG.swap (h : TG w gg hh nl m wr s r s2 r2) : TG w hh gg nl m wr s2 r2 s r := by
  obtain ⟨⟨y, g, vF, vL, ms, y', g', vF', vL', ms', h1, h2, h3, h4⟩, a1, a2, a3, a4, a5, a6, a7⟩ := h
  exact ⟨⟨y', g', vF', vL', ms', y, g, vF, vL, ms, h2, h1, fun k hk => ⟨h4 k hk, fun q => (h3 k q).2 hk⟩, fun k hk => (h3 k hk).1⟩, a2, a1, a4, a3, a6, a5, a7⟩
theorem TG.below (h : TG w gg hh nl m wr s r s2 r2) (hb : Below wr.heap.size wr w') : TG w gg hh nl m w' s r s2 r2 := by
  obtain ⟨⟨y, g, vF, vL, ms, y', g', vF', vL', ms', h1, h2, h3, h4⟩, a1, a2, a3, a4, a5, a6, a7⟩ := h
  exact ⟨⟨y, g, vF, vL, ms, y', g', vF', vL', ms', h1.below hb, h2.below hb, h3, h4⟩, a1, a2, a3, a4, a5, a6, belowT a7 (belowB hb a7.size)⟩
theorem TG.mono {m' : Nat} (h : TG w gg hh nl m wr s r s2 r2) (hm : m ≤ m') : TG w gg hh nl m' wr s r s2 r2 := ⟨h.ex, h.rel, h.rel2, h.sm.mono hm, h.sm2.mono hm, h.en, h.en2, h.low⟩
theorem TG.act (h : TG w gg hh nl m wr s r s2 r2) (hnl : nl ≤ 8) (hm : m ≤ 900) {x : Act2} {ks : Value} (hK : KpAt w ks x.kp) (h20 : x.kp.length ≤ 20) (ha : x.a < 18446744073709551616) (hv : x.v < 18446744073709551616) :
    Calls Try.prog 13 #[.pointer (some ⟨gg, 0, none⟩), actA x ks] wr fun e w' => e = .returned (.bool true) ∧ TG w gg hh nl (m + 1) w' (doS x s) (doR x s r) s2 r2 := by
  obtain ⟨⟨y, g, vF, vL, ms, y', g', vF', vL', ms', h1, h2, h3, h4⟩, a1, a2, a3, a4, a5, a6, a7⟩ := h
  have hKB : KB (fun k => k < w.heap.size ∨ FG hh y' g' vF' vL' ms' k) wr ks x.kp := by
    obtain ⟨A, cap, q1, q2, q3, q4, q5, q7⟩ := (KB.of hK (by omega)).keep (keepB a7)
    exact ⟨A, cap, q1, q2, q3, fun a e hne => .inl (q4 a e hne), q5, q7⟩
  have np : ∀ k, FG gg y g vF vL ms k → ¬ (k < w.heap.size ∨ FG hh y' g' vF' vL' ms' k) := fun k hk q => by
    obtain ⟨b1, b2⟩ := h3 k hk
    rcases q with q | q
    · omega
    · exact b2 q
  have hgs : GSP (fun k => k < w.heap.size ∨ FG hh y' g' vF' vL' ms' k) wr gg s r :=
    ⟨y, g, vF, vL, ms, h1, ⟨np _ (.inl rfl), fun k hk => np k (.inr (.inl hk)), fun k hk => np k (.inr (.inr hk))⟩, fun q hq => by
      rcases hq with hq | hq
      · exact Nat.lt_of_lt_of_le hq a7.size
      · exact h2.fgl q hq⟩
  refine (gdo_anyP hgs a1 a3 (by omega) hm x ks hKB ha hv).mono ?_
  rintro e w' ⟨rfl, ⟨z, gz, vz, vz2, mz, q1, q2, q3⟩, q4⟩
  refine ⟨rfl, ⟨z, gz, vz, vz2, mz, y', g', vF', vL', ms', q1, h2.same fun k hk => q4.block k (.inr hk), fun k hk => ?_, h4⟩, rel_do a1 a3 (by omega) x hv, a2, doR_small a3, a4.mono (by omega), (nl_do a1 a3 (by omega) hv).trans a5, a6, belowT a7 ⟨q4.os, q4.tape, q4.output, q4.size, fun k hk => q4.block k (.inl hk)⟩⟩
  have hp : ¬ (k < w.heap.size ∨ FG hh y' g' vF' vL' ms' k) := by
    rcases hk with rfl | hk | hk
    · exact q2.gg
    · exact q2.m k hk
    · exact q2.d k hk
  exact ⟨by by_cases q : k < w.heap.size; exact absurd (.inl q) hp; omega, fun q => hp (.inr q)⟩
/-- What both games show. -/
structure Look2 (W : World) (gg hh : Nat) (s : St) (r : Rf) (s2 : St) (r2 : Rf) (y g y' g' : Nat) : Prop where
  c0 : W.cell? ⟨gg, 0, none⟩ = some (.pointer (some ⟨y, 0, none⟩))
  c1 : W.cell? ⟨gg, 1, none⟩ = some (.pointer (some ⟨g, 0, none⟩))
  d0 : W.cell? ⟨hh, 0, none⟩ = some (.pointer (some ⟨y', 0, none⟩))
  d1 : W.cell? ⟨hh, 1, none⟩ = some (.pointer (some ⟨g', 0, none⟩))
  same : Calls Try.prog 12 #[.pointer (some ⟨gg, 0, none⟩)] W fun e w' => e = .returned (.bool true) ∧ Below W.heap.size W w'
  same2 : Calls Try.prog 12 #[.pointer (some ⟨hh, 0, none⟩)] W fun e w' => e = .returned (.bool true) ∧ Below W.heap.size W w'
  ps : ∀ b : Bool, (b = true ↔ SameR r r2) → Calls Try.prog 22 #[.pointer (some ⟨y, 0, none⟩), .pointer (some ⟨y', 0, none⟩)] W fun e w' => e = .returned (.bool b) ∧ Below W.heap.size W w'
  ps2 : ∀ b : Bool, (b = true ↔ SameR r r2) → Calls Try.prog 22 #[.pointer (some ⟨y', 0, none⟩), .pointer (some ⟨y, 0, none⟩)] W fun e w' => e = .returned (.bool b) ∧ Below W.heap.size W w'
  R : ∃ vF vL ms vF' vL' ms', R2At W g r vF vL ms ∧ R2At W g' r2 vF' vL' ms'
theorem sameR_symm {r r' : Rf} (hn : r.nl = r'.nl) (h : SameR r r') : SameR r' r := by
  obtain ⟨h1, h2, h3⟩ := h
  refine ⟨h1.symm, h2.symm, fun j hj => ?_⟩
  obtain ⟨g1, g2⟩ := h3 j (by omega)
  exact ⟨g1.symm, fun i hi hi' c hc => (g2 i hi' hi c hc).symm⟩
theorem TG.looks (h : TG w gg hh nl m wr s r s2 r2) (hnl : nl ≤ 8) : ∃ y g y' g', ∀ W', Below wr.heap.size wr W' → Look2 W' gg hh s r s2 r2 y g y' g' := by
  obtain ⟨⟨y, g, vF, vL, ms, y', g', vF', vL', ms', h1, h2, h3, h4⟩, a1, a2, a3, a4, a5, a6, a7⟩ := h
  refine ⟨y.g, g, y'.g, g', fun W' hb => ?_⟩
  have k1 := h1.below hb
  have k2 := h2.below hb
  have q0 := k1.row.cell 0
  have q1 := k1.row.cell 1
  have q2 := k2.row.cell 0
  have q3 := k2.row.cell 1
  simp only [List.getElem?_toArray, List.getElem?_cons_zero, List.getElem?_cons_succ] at q0 q1 q2 q3
  have hrn : r.nl = r2.nl := by rw [a1.nl, a2.nl, a5, a6]
  refine ⟨q0, q1, q2, q3, gsame_any (k1.g2 a1) (by omega), gsame_any (k2.g2 a2) (by omega), fun b hb => ?_, fun b hb => ?_, vF, vL, ms, vF', vL', ms', k1.d, k2.d⟩
  · exact same_yes k1.m k2.m a1.ok a2.ok (hb.trans (same_rel a1 a2).symm)
  · exact same_yes k2.m k1.m a2.ok a1.ok ((hb.trans ⟨sameR_symm hrn, sameR_symm hrn.symm⟩).trans (same_rel a2 a1).symm)
end
end Go.Proofs.Ytkeajfedlhgejaa
/- PmemCopies: a copy goes on apart, and two are the same just if they look so; no conditions. -/
namespace Go.Proofs.Ytkeajfedlhgejaa
open Go Go.RowKit
set_option linter.unusedVariables false
theorem sameR_refl (r : Rf) : SameR r r := ⟨rfl, rfl, fun j hj => ⟨rfl, fun i hi hi' c hc => Iff.rfl⟩⟩
set_option maxRecDepth 100000 in
set_option maxHeartbeats 8000000 in
theorem copies2_no1 {w : World} {A A2 A3 A4 : Option Addr} {n cap n2 cap2 n3 cap3 n4 cap4 : Nat} {bs : List Nat} {l lx ly : List Act2} (hb : BsAt w A n cap bs) (hl : Acts2In w A2 n2 cap2 l) (hl3 : Acts2In w A3 n3 cap3 lx) (hl4 : Acts2In w A4 n4 cap4 ly) (hn : n ≤ 9223372036854775807) (h1 : fewB l 40 = false) :
    Calls Try.prog 6 #[.slice A n cap, .slice A2 n2 cap2, .slice A3 n3 cap3, .slice A4 n4 cap4] w fun e w' => e = .returned (.bool true) ∧ Below w.heap.size w w' := by
  have F1 := Lib.hid (few_any2 hl 40 (by omega))
  have F2 := Lib.hid (few_any2 hl3 20 (by omega))
  have F3 := Lib.hid (few_any2 hl4 20 (by omega))
  have F4 := Lib.hid (fits_any2 (w := w) A n cap hn)
  rw [h1] at F1
  clear hb hl hl3 hl4
  go_enter Try.func6, Try.ntmps6
  go_wp2_with fail
  refine F1.out.mono ?_
  rintro e w1 ⟨rfl, rfl⟩
  go_wp2_with fail
  refine (known_any w).mono ?_
  rintro e w1 ⟨rfl, hb⟩
  go_wp2
  go_ret
  exact ⟨rfl, hb⟩
set_option maxRecDepth 100000 in
set_option maxHeartbeats 8000000 in
theorem copies2_no2 {w : World} {A A2 A3 A4 : Option Addr} {n cap n2 cap2 n3 cap3 n4 cap4 : Nat} {bs : List Nat} {l lx ly : List Act2} (hb : BsAt w A n cap bs) (hl : Acts2In w A2 n2 cap2 l) (hl3 : Acts2In w A3 n3 cap3 lx) (hl4 : Acts2In w A4 n4 cap4 ly) (hn : n ≤ 9223372036854775807) (h1 : fewB l 40 = true) (h2 : fewB lx 20 = false) :
    Calls Try.prog 6 #[.slice A n cap, .slice A2 n2 cap2, .slice A3 n3 cap3, .slice A4 n4 cap4] w fun e w' => e = .returned (.bool true) ∧ Below w.heap.size w w' := by
  have F1 := Lib.hid (few_any2 hl 40 (by omega))
  have F2 := Lib.hid (few_any2 hl3 20 (by omega))
  have F3 := Lib.hid (few_any2 hl4 20 (by omega))
  have F4 := Lib.hid (fits_any2 (w := w) A n cap hn)
  rw [h1] at F1
  rw [h2] at F2
  clear hb hl hl3 hl4
  go_enter Try.func6, Try.ntmps6
  go_wp2_with fail
  refine F1.out.mono ?_
  rintro e w1 ⟨rfl, rfl⟩
  go_wp2_with fail
  refine F2.out.mono ?_
  rintro e w1 ⟨rfl, rfl⟩
  go_wp2_with fail
  refine (known_any w).mono ?_
  rintro e w1 ⟨rfl, hb⟩
  go_wp2
  go_ret
  exact ⟨rfl, hb⟩
set_option maxRecDepth 100000 in
set_option maxHeartbeats 8000000 in
theorem copies2_no3 {w : World} {A A2 A3 A4 : Option Addr} {n cap n2 cap2 n3 cap3 n4 cap4 : Nat} {bs : List Nat} {l lx ly : List Act2} (hb : BsAt w A n cap bs) (hl : Acts2In w A2 n2 cap2 l) (hl3 : Acts2In w A3 n3 cap3 lx) (hl4 : Acts2In w A4 n4 cap4 ly) (hn : n ≤ 9223372036854775807) (h1 : fewB l 40 = true) (h2 : fewB lx 20 = true) (h3 : fewB ly 20 = false) :
    Calls Try.prog 6 #[.slice A n cap, .slice A2 n2 cap2, .slice A3 n3 cap3, .slice A4 n4 cap4] w fun e w' => e = .returned (.bool true) ∧ Below w.heap.size w w' := by
  have F1 := Lib.hid (few_any2 hl 40 (by omega))
  have F2 := Lib.hid (few_any2 hl3 20 (by omega))
  have F3 := Lib.hid (few_any2 hl4 20 (by omega))
  have F4 := Lib.hid (fits_any2 (w := w) A n cap hn)
  rw [h1] at F1
  rw [h2] at F2
  rw [h3] at F3
  clear hb hl hl3 hl4
  go_enter Try.func6, Try.ntmps6
  go_wp2_with fail
  refine F1.out.mono ?_
  rintro e w1 ⟨rfl, rfl⟩
  go_wp2_with fail
  refine F2.out.mono ?_
  rintro e w1 ⟨rfl, rfl⟩
  go_wp2_with fail
  refine F3.out.mono ?_
  rintro e w1 ⟨rfl, rfl⟩
  go_wp2_with fail
  refine (known_any w).mono ?_
  rintro e w1 ⟨rfl, hb⟩
  go_wp2
  go_ret
  exact ⟨rfl, hb⟩
set_option maxRecDepth 100000 in
set_option maxHeartbeats 8000000 in
theorem copies2_no4 {w : World} {A A2 A3 A4 : Option Addr} {n cap n2 cap2 n3 cap3 n4 cap4 : Nat} {bs : List Nat} {l lx ly : List Act2} (hb : BsAt w A n cap bs) (hl : Acts2In w A2 n2 cap2 l) (hl3 : Acts2In w A3 n3 cap3 lx) (hl4 : Acts2In w A4 n4 cap4 ly) (hn : n ≤ 9223372036854775807) (h1 : fewB l 40 = true) (h2 : fewB lx 20 = true) (h3 : fewB ly 20 = true) (h4 : fitsB n = false) :
    Calls Try.prog 6 #[.slice A n cap, .slice A2 n2 cap2, .slice A3 n3 cap3, .slice A4 n4 cap4] w fun e w' => e = .returned (.bool true) ∧ Below w.heap.size w w' := by
  have F1 := Lib.hid (few_any2 hl 40 (by omega))
  have F2 := Lib.hid (few_any2 hl3 20 (by omega))
  have F3 := Lib.hid (few_any2 hl4 20 (by omega))
  have F4 := Lib.hid (fits_any2 (w := w) A n cap hn)
  rw [h1] at F1
  rw [h2] at F2
  rw [h3] at F3
  rw [h4] at F4
  clear hb hl hl3 hl4
  go_enter Try.func6, Try.ntmps6
  go_wp2_with fail
  refine F1.out.mono ?_
  rintro e w1 ⟨rfl, rfl⟩
  go_wp2_with fail
  refine F2.out.mono ?_
  rintro e w1 ⟨rfl, rfl⟩
  go_wp2_with fail
  refine F3.out.mono ?_
  rintro e w1 ⟨rfl, rfl⟩
  go_wp2_with fail
  refine F4.out.mono ?_
  rintro e w1 ⟨rfl, rfl⟩
  go_wp2_with fail
  refine (known_any w).mono ?_
  rintro e w1 ⟨rfl, hb⟩
  go_wp2
  go_ret
  exact ⟨rfl, hb⟩
set_option maxRecDepth 100000 in
set_option maxHeartbeats 8000000 in
theorem copies2_yes {w : World} {A A2 A3 A4 : Option Addr} {n cap n2 cap2 n3 cap3 n4 cap4 : Nat} {bs : List Nat} {l lx ly : List Act2} (hb : BsAt w A n cap bs) (hl : Acts2In w A2 n2 cap2 l) (hl3 : Acts2In w A3 n3 cap3 lx) (hl4 : Acts2In w A4 n4 cap4 ly) (hn : n ≤ 9223372036854775807) (h1 : fewB l 40 = true) (h2 : fewB lx 20 = true) (h3 : fewB ly 20 = true) (h4 : fitsB n = true) :
    Calls Try.prog 6 #[.slice A n cap, .slice A2 n2 cap2, .slice A3 n3 cap3, .slice A4 n4 cap4] w fun e w' => e = .returned (.bool true) ∧ Below w.heap.size w w' := by
  have F1 := Lib.hid (few_any2 hl 40 (by omega))
  have F2 := Lib.hid (few_any2 hl3 20 (by omega))
  have F3 := Lib.hid (few_any2 hl4 20 (by omega))
  have F4 := Lib.hid (fits_any2 (w := w) A n cap hn)
  rw [h1] at F1
  rw [h2] at F2
  rw [h3] at F3
  rw [h4] at F4
  obtain ⟨hlen, h20⟩ := fewB_iff.1 h1
  obtain ⟨hlen3, h203⟩ := fewB_iff.1 h2
  obtain ⟨hlen4, h204⟩ := fewB_iff.1 h3
  obtain ⟨hl2, _, _, hat⟩ := hl
  obtain ⟨hl23, _, _, hat3⟩ := hl3
  obtain ⟨hl24, _, _, hat4⟩ := hl4
  have H20 := Lib.hid h20
  have HL2 := Lib.hid hl2
  have HAT := Lib.hid hat
  have H203 := Lib.hid h203
  have HL3 := Lib.hid hl23
  have HAT3 := Lib.hid hat3
  have H204 := Lib.hid h204
  have HL4 := Lib.hid hl24
  have HAT4 := Lib.hid hat4
  have hn2 : n2 ≤ 40 := by omega
  have hn3 : n3 ≤ 20 := by omega
  have hn4 : n4 ≤ 20 := by omega
  have hfit : mayB (n : Int) = true ∧ n ≤ 512 := by simpa [fitsB] using h4
  have hmm : 64 ≤ (n : Int) ∧ (n : Int) ≤ 1048576 ∧ (n : Int) % 64 = 0 := by simpa [mayB] using hfit.1
  have hn512 := hfit.2
  obtain ⟨nl, hnl⟩ : ∃ nl, n = 64 * nl := ⟨n / 64, by omega⟩
  have hnl0 : 0 < nl := by omega
  have hnl8 : nl ≤ 8 := by omega
  have HBG := Lib.hid (begin_yes hb hnl hnl0 hnl8)
  have HR0 := Lib.hid (rel0 (hb.len.trans hnl) hb.b hnl0)
  have EGCopy := Lib.hid (enters_of Try.func20 (by kernel_rfl) rfl)
  have EGr2Copy := Lib.hid (enters_of Try.func21 (by kernel_rfl) rfl)
  have EGSame := Lib.hid (enters_of Try.func22 (by kernel_rfl) rfl)
  have EGr2Same := Lib.hid (enters_of Try.func23 (by kernel_rfl) rfl)
  have EGgsame := Lib.hid (enters_of Try.func12 (by kernel_rfl) rfl)
  have EGknown2 := Lib.hid (enters_of Try.func8 (by kernel_rfl) rfl)
  clear h1 h2 h3 h4 h20 h203 h204 hl2 hl23 hl24 hat hat3 hat4 hlen hlen3 hlen4 hfit hmm hnl hb
  go_enter Try.func6, Try.ntmps6
  go_wp2_with fail
  refine F1.out.mono ?_
  rintro e w1 ⟨rfl, rfl⟩
  go_wp2_with fail
  refine F2.out.mono ?_
  rintro e w1 ⟨rfl, rfl⟩
  go_wp2_with fail
  refine F3.out.mono ?_
  rintro e w1 ⟨rfl, rfl⟩
  go_wp2_with fail
  refine F4.out.mono ?_
  rintro e w1 ⟨rfl, rfl⟩
  go_wp2_with fail
  refine HBG.out.mono ?_
  rintro e w1 ⟨gg, rfl, hgs, hb1⟩
  have HP : Hid (PlI w gg nl 0 w1) := Lib.hid ⟨_, _, ⟨hgs, HR0.out, sm0 nl bs⟩, rfl, hb1⟩
  clear hgs hb1 HBG HR0
  go_wp2
  go_loopg [10] n2 (fun k v wr => ∃ j : Nat, v = .int .i64 (j : Int) ∧ j ≤ n2 ∧ n2 - j ≤ k ∧ PlI w gg nl j wr)
  case atStart => exact ⟨0, rfl, by omega, by omega, HP.out⟩
  case round =>
    obtain ⟨i, rfl, hin, hk, hP⟩ := hrel
    rename World => wr
    have HPJ := Lib.hid hP
    clear hP HP
    by_cases hlt : i < n2
    · obtain ⟨ga, ks, rfl, hA⟩ := HAT.out (by rw [HL2.out]; omega)
      have hjl : i < l.length := by rw [HL2.out]; exact hlt
      obtain ⟨s, r, hGA, _, hBw⟩ := HPJ.out
      obtain ⟨c0, c1, c2, c3, c4, c5⟩ := (hA.below hBw).cells hjl
      have HST := Lib.hid (HPJ.out.step hnl8 (by omega) hA hjl (H20.out i hjl))
      unfold actA at HST
      clear hA hjl hGA hBw
      go_wp2_with fail
      refine HST.out.mono ?_
      rintro e w3 ⟨rfl, hP3⟩
      have HP3 := Lib.hid hP3
      clear hP3
      go_wp2
      go_roundg (n2 - (i + 1))
      case measure => omega
      case rel => exact ⟨i + 1, by go_num, by omega, by omega, HP3.out⟩
    · have hdj : decide ((i : Int) < (n2 : Int)) = false := by simp; omega
      obtain ⟨s, r, hGA, hns, hBw⟩ := HPJ.out
      obtain ⟨⟨y, g, vF, vL, ms, h3, hnw⟩, hrel, hsm⟩ := hGA
      have H3 := Lib.hid h3
      have HNW := Lib.hid hnw
      have HRL := Lib.hid hrel
      have HSM := Lib.hid (hsm.mono (show i ≤ 40 by omega))
      have HNS := Lib.hid hns
      have HBW := Lib.hid hBw
      have HG0 := Lib.hid (fun (W : World) (hb : Below wr.heap.size wr W) => (show W.cell? ⟨gg, 0, none⟩ = some (.pointer (some ⟨y.g, 0, none⟩)) ∧ W.cell? ⟨gg, 1, none⟩ = some (.pointer (some ⟨g, 0, none⟩)) by
        have h0 := (h3.row.below hb h3.row.lt).cell 0
        have h1 := (h3.row.below hb h3.row.lt).cell 1
        simp only [List.getElem?_toArray, List.getElem?_cons_zero, List.getElem?_cons_succ] at h0 h1
        exact ⟨h0, h1⟩))
      clear h3 hnw hrel hsm hns hBw HPJ
      go_upto_region 11 with (fail)
      refine wp_region_noPanic ?_
      refine wp_region_held_drew (S := (fun WW => WW.cell? ⟨gg, 0, none⟩ = some (.pointer (some ⟨y.g, 0, none⟩)) ∧ WW.cell? ⟨gg, 1, none⟩ = some (.pointer (some ⟨g, 0, none⟩)))) (by kernel_rfl) (HG0.out _ (drew_below _)) (fun hHeld => ?_)
      refine wpAnyH_take (i := 0) (oi := ⟨some 51, _, _, _, _, _⟩) (v := .pointer (some ⟨gg, 0, none⟩)) rfl (by kernel_rfl) (by kernel_rfl) (by kernel_rfl) (fun _ _ _ h => h) (Or.inl ⟨by kernel_rfl, by intro WW hSw; obtain ⟨s0, s1⟩ := hSw; go_simp⟩) (by assumption) ?_
      (try simp only [Act.put, List.setIfInBounds_toArray, List.set_cons_zero, List.set_cons_succ])
      refine wpAnyH_take (i := 1) (oi := ⟨some 52, _, _, _, _, _⟩) (v := .pointer (some ⟨gg, 0, none⟩)) rfl (by kernel_rfl) (by kernel_rfl) (by kernel_rfl) (fun _ _ _ h => h) (Or.inl ⟨by kernel_rfl, by intro WW hSw; obtain ⟨s0, s1⟩ := hSw; go_simp⟩) (by assumption) ?_
      (try simp only [Act.put, List.setIfInBounds_toArray, List.set_cons_zero, List.set_cons_succ])
      refine wpAnyH_take (i := 2) (oi := ⟨some 53, _, _, _, _, _⟩) (v := .pointer (some ⟨gg, 0, none⟩)) rfl (by kernel_rfl) (by kernel_rfl) (by kernel_rfl) (fun _ _ _ h => h) (Or.inl ⟨by kernel_rfl, by intro WW hSw; obtain ⟨s0, s1⟩ := hSw; go_simp⟩) (by assumption) ?_
      (try simp only [Act.put, List.setIfInBounds_toArray, List.set_cons_zero, List.set_cons_succ])
      refine wpAnyH_take (i := 3) (oi := ⟨some 54, _, _, _, _, _⟩) (v := .pointer (some ⟨y.g, 0, none⟩)) rfl (by kernel_rfl) (by kernel_rfl) (by kernel_rfl) (fun _ _ _ h => h) (Or.inl ⟨by kernel_rfl, by intro WW hSw; obtain ⟨s0, s1⟩ := hSw; go_simp⟩) (by assumption) ?_
      (try simp only [Act.put, List.setIfInBounds_toArray, List.set_cons_zero, List.set_cons_succ])
      refine wpAnyH_take (i := 5) (oi := ⟨some 56, _, _, _, _, _⟩) (v := .pointer (some ⟨gg, 0, none⟩)) rfl (by kernel_rfl) (by kernel_rfl) (by kernel_rfl) (fun _ _ _ h => h) (Or.inl ⟨by kernel_rfl, by intro WW hSw; obtain ⟨s0, s1⟩ := hSw; go_simp⟩) (by assumption) ?_
      (try simp only [Act.put, List.setIfInBounds_toArray, List.set_cons_zero, List.set_cons_succ])
      refine wpAnyH_take (i := 6) (oi := ⟨some 57, _, _, _, _, _⟩) (v := .pointer (some ⟨gg, 0, none⟩)) rfl (by kernel_rfl) (by kernel_rfl) (by kernel_rfl) (fun _ _ _ h => h) (Or.inl ⟨by kernel_rfl, by intro WW hSw; obtain ⟨s0, s1⟩ := hSw; go_simp⟩) (by assumption) ?_
      (try simp only [Act.put, List.setIfInBounds_toArray, List.set_cons_zero, List.set_cons_succ])
      refine wpAnyH_take (i := 7) (oi := ⟨some 58, _, _, _, _, _⟩) (v := .pointer (some ⟨gg, 1, none⟩)) rfl (by kernel_rfl) (by kernel_rfl) (by kernel_rfl) (fun _ _ _ h => h) (Or.inl ⟨by kernel_rfl, by intro WW hSw; obtain ⟨s0, s1⟩ := hSw; go_simp⟩) (by assumption) ?_
      (try simp only [Act.put, List.setIfInBounds_toArray, List.set_cons_zero, List.set_cons_succ])
      refine wpAnyH_take (i := 8) (oi := ⟨some 59, _, _, _, _, _⟩) (v := .pointer (some ⟨g, 0, none⟩)) rfl (by kernel_rfl) (by kernel_rfl) (by kernel_rfl) (fun _ _ _ h => h) (Or.inl ⟨by kernel_rfl, by intro WW hSw; obtain ⟨s0, s1⟩ := hSw; go_simp⟩) (by assumption) ?_
      (try simp only [Act.put, List.setIfInBounds_toArray, List.set_cons_zero, List.set_cons_succ])
      refine wpAnyH_one (i := 4) (oi := ⟨_, _, _, _, _, _⟩) rfl (by kernel_rfl) (fun K hK => ?_)
      refine step_calls (by rfl) 20 EGCopy.out [.tmp 54] _ rfl [.pointer (some ⟨y.g, 0, none⟩)] rfl (copy_yes (H3.out.m.below (drew_below _)) HRL.out.ok) ?_
      rintro e x1 ⟨y', rfl, hm1, hf1, hb1⟩
      have B1 := Lib.hid (Below.and (drew_below wr) hb1)
      have HM1 := Lib.hid hm1
      have HF1 := Lib.hid hf1
      refine ⟨_, rfl, hK _ _ (HG0.out _ B1.out) (fun _ => ?_)⟩
      clear hHeld
      have hHeld := HG0.out _ B1.out
      clear hK K hm1 hf1 hb1
      (try simp only [Act.put, List.setIfInBounds_toArray, List.set_cons_zero, List.set_cons_succ])
      refine wpAnyH_one (i := 9) (oi := ⟨_, _, _, _, _, _⟩) rfl (by kernel_rfl) (fun K hK => ?_)
      refine step_calls (by rfl) 21 EGr2Copy.out [.tmp 59] _ rfl [.pointer (some ⟨g, 0, none⟩)] rfl (r2Copy_any (H3.out.d.below B1.out) (by rw [HRL.out.nl, HNS.out]; exact ⟨hnl0, hnl8⟩) (by rw [HRL.out.nl]; exact HRL.out.fl) (by have := HSM.out.l; omega) (fun x hx => by have := HSM.out.mq x hx; omega)) ?_
      rintro e x2 ⟨g', vF', vL', ms', rfl, hd2, hf2, hb2⟩
      have B2 := Lib.hid (Below.and B1.out hb2)
      have HM2 := Lib.hid (HM1.out.below hb2)
      have HD2 := Lib.hid hd2
      have HF2 := Lib.hid hf2
      have HS12 := Lib.hid hb2.size
      refine ⟨_, rfl, hK _ _ (HG0.out _ B2.out) (fun _ => ?_)⟩
      clear hHeld
      have hHeld := HG0.out _ B2.out
      clear hK K hd2 hf2 hb2
      (try simp only [Act.put, List.setIfInBounds_toArray, List.set_cons_zero, List.set_cons_succ])
      refine wpAnyH_take (i := 10) (oi := ⟨some 61, _, _, _, _, _⟩) (v := .agg #[.pointer (some ⟨y'.g, 0, none⟩), .pointer (some ⟨g', 0, none⟩)]) rfl (by kernel_rfl) (by kernel_rfl) (by kernel_rfl) (fun _ _ _ h => h) (Or.inl ⟨by kernel_rfl, by intro WW hSw; skip; go_simp⟩) (by assumption) ?_
      (try simp only [Act.put, List.setIfInBounds_toArray, List.set_cons_zero, List.set_cons_succ])
      refine wpAnyH_one (i := 11) (oi := ⟨_, _, _, _, _, _⟩) rfl (by kernel_rfl) (fun K hK => ?_)
      refine step_box (by rfl) 44 _ rfl #[.pointer (some ⟨y'.g, 0, none⟩), .pointer (some ⟨g', 0, none⟩)] (by rfl) ?_
      have B3 := Lib.hid (Below.and B2.out (alloc_below x2 (.cells #[.pointer (some ⟨y'.g, 0, none⟩), .pointer (some ⟨g', 0, none⟩)] 44)))
      refine hK _ _ (HG0.out _ B3.out) (fun _ => ?_)
      clear hHeld
      have hHeld := HG0.out _ B3.out
      clear hK K
      (try simp only [Act.put, List.setIfInBounds_toArray, List.set_cons_zero, List.set_cons_succ])
      refine wpAnyH_take (i := 12) (oi := ⟨some 11, _, _, _, _, _⟩) (v := .pointer (some ⟨x2.heap.size, 0, none⟩)) rfl (by kernel_rfl) (by kernel_rfl) (by kernel_rfl) (fun _ _ _ h => h) (Or.inl ⟨by kernel_rfl, by intro WW hSw; skip; go_simp⟩) (by assumption) ?_
      (try simp only [Act.put, List.setIfInBounds_toArray, List.set_cons_zero, List.set_cons_succ])
      refine wpAnyH_done (by kernel_rfl) ?_ _
      unfold NoPanic
      clear hHeld
      have HT : Hid (TG w gg x2.heap.size nl 40 (x2.alloc (.cells #[.pointer (some ⟨y'.g, 0, none⟩), .pointer (some ⟨g', 0, none⟩)] 44)) s r s r) := Lib.hid (by
        have hsz := B2.out.size
        have hs1 := B1.out.size
        have hs12 := HS12.out
        have hw0 := HBW.out.size
        have fh : ∀ k, FG x2.heap.size y' g' vF' vL' ms' k → wr.heap.size ≤ k := by
          rintro k (rfl | hk | hk)
          · exact hsz
          · have := HF1.out k hk; exact this
          · have := HF2.out k hk; omega
        have fg : ∀ k, FG gg y g vF vL ms k → w.heap.size ≤ k := by
          rintro k (rfl | hk | hk)
          · exact HNW.out.gg
          · exact HNW.out.m k hk
          · exact HNW.out.d k hk
        refine ⟨⟨y, g, vF, vL, ms, y', g', vF', vL', ms', H3.out.below B3.out, ⟨Row.new _ _ _, HM2.out.below (alloc_below _ _), HD2.out.below (alloc_below _ _)⟩, fun k hk => ⟨fg k hk, fun q => ?_⟩, fun k hk => Nat.le_trans hw0 (fh k hk)⟩, HRL.out, HRL.out, HSM.out, HSM.out, HNS.out, HNS.out, belowT HBW.out (belowB B3.out hw0)⟩
        have h1 := H3.out.fgl k hk
        have h2 := fh k q
        omega)
      obtain ⟨hh, hhe⟩ : ∃ hh, hh = x2.heap.size := ⟨_, rfl⟩
      rw [← hhe] at HT ⊢
      obtain ⟨x3, hx3⟩ : ∃ x3, x3 = x2.alloc (.cells #[.pointer (some ⟨y'.g, 0, none⟩), .pointer (some ⟨g', 0, none⟩)] 44) := ⟨_, rfl⟩
      rw [← hx3] at HT ⊢
      clear hhe hx3 H3 HNW HG0 B1 B2 B3 HM1 HM2 HD2 HF1 HF2 HS12
      obtain ⟨ya, ga, yb, gb, hlook⟩ := HT.out.looks hnl8
      have HLK := Lib.hid hlook
      clear hlook
      have HS := Lib.hid (fun (W : World) (hb : Below x3.heap.size x3 W) => (show (fun WW => WW.cell? ⟨gg, 0, none⟩ = some (.pointer (some ⟨ya, 0, none⟩)) ∧ WW.cell? ⟨hh, 0, none⟩ = some (.pointer (some ⟨yb, 0, none⟩)) ∧ WW.cell? ⟨gg, 1, none⟩ = some (.pointer (some ⟨ga, 0, none⟩)) ∧ WW.cell? ⟨hh, 1, none⟩ = some (.pointer (some ⟨gb, 0, none⟩))) W from ⟨(HLK.out W hb).c0, (HLK.out W hb).d0, (HLK.out W hb).c1, (HLK.out W hb).d1⟩))
      go_upto_region 12 with (fail)
      refine wp_region_noPanic ?_
      refine wp_region_held_drew (S := (fun WW => WW.cell? ⟨gg, 0, none⟩ = some (.pointer (some ⟨ya, 0, none⟩)) ∧ WW.cell? ⟨hh, 0, none⟩ = some (.pointer (some ⟨yb, 0, none⟩)) ∧ WW.cell? ⟨gg, 1, none⟩ = some (.pointer (some ⟨ga, 0, none⟩)) ∧ WW.cell? ⟨hh, 1, none⟩ = some (.pointer (some ⟨gb, 0, none⟩)))) (by kernel_rfl) (HS.out _ (drew_below _)) (fun hHeld => ?_)
      refine wpAnyH_take (i := 0) (oi := ⟨some 63, _, _, _, _, _⟩) (v := .pointer (some ⟨hh, 0, none⟩)) rfl (by kernel_rfl) (by kernel_rfl) (by kernel_rfl) (fun _ _ _ h => h) (Or.inl ⟨by kernel_rfl, by intro WW hSw; obtain ⟨s0, s1, s2, s3⟩ := hSw; go_simp⟩) (by assumption) ?_
      (try simp only [Act.put, List.setIfInBounds_toArray, List.set_cons_zero, List.set_cons_succ])
      refine wpAnyH_take (i := 1) (oi := ⟨some 64, _, _, _, _, _⟩) (v := .pointer (some ⟨hh, 0, none⟩)) rfl (by kernel_rfl) (by kernel_rfl) (by kernel_rfl) (fun _ _ _ h => h) (Or.inl ⟨by kernel_rfl, by intro WW hSw; obtain ⟨s0, s1, s2, s3⟩ := hSw; go_simp⟩) (by assumption) ?_
      (try simp only [Act.put, List.setIfInBounds_toArray, List.set_cons_zero, List.set_cons_succ])
      refine wpAnyH_take (i := 2) (oi := ⟨some 65, _, _, _, _, _⟩) (v := .pointer (some ⟨hh, 0, none⟩)) rfl (by kernel_rfl) (by kernel_rfl) (by kernel_rfl) (fun _ _ _ h => h) (Or.inl ⟨by kernel_rfl, by intro WW hSw; obtain ⟨s0, s1, s2, s3⟩ := hSw; go_simp⟩) (by assumption) ?_
      (try simp only [Act.put, List.setIfInBounds_toArray, List.set_cons_zero, List.set_cons_succ])
      refine wpAnyH_take (i := 3) (oi := ⟨some 66, _, _, _, _, _⟩) (v := .pointer (some ⟨yb, 0, none⟩)) rfl (by kernel_rfl) (by kernel_rfl) (by kernel_rfl) (fun _ _ _ h => h) (Or.inl ⟨by kernel_rfl, by intro WW hSw; obtain ⟨s0, s1, s2, s3⟩ := hSw; go_simp⟩) (by assumption) ?_
      (try simp only [Act.put, List.setIfInBounds_toArray, List.set_cons_zero, List.set_cons_succ])
      refine wpAnyH_take (i := 4) (oi := ⟨some 67, _, _, _, _, _⟩) (v := .bool false) rfl (by kernel_rfl) (by kernel_rfl) (by kernel_rfl) (fun _ _ _ h => h) (Or.inl ⟨by kernel_rfl, by intro WW hSw; obtain ⟨s0, s1, s2, s3⟩ := hSw; go_simp⟩) (by assumption) ?_
      (try simp only [Act.put, List.setIfInBounds_toArray, List.set_cons_zero, List.set_cons_succ])
      refine wpAnyH_take (i := 5) (oi := ⟨some 68, _, _, _, _, _⟩) (v := .bool false) rfl (by kernel_rfl) (by kernel_rfl) (by kernel_rfl) (fun _ _ _ h => h) (Or.inl ⟨by kernel_rfl, by intro WW hSw; obtain ⟨s0, s1, s2, s3⟩ := hSw; go_simp⟩) (by assumption) ?_
      (try simp only [Act.put, List.setIfInBounds_toArray, List.set_cons_zero, List.set_cons_succ])
      refine wpAnyH_take (i := 6) (oi := ⟨some 69, _, _, _, _, _⟩) (v := .pointer (some ⟨hh, 0, none⟩)) rfl (by kernel_rfl) (by kernel_rfl) (by kernel_rfl) (fun _ _ _ h => h) (Or.inl ⟨by kernel_rfl, by intro WW hSw; obtain ⟨s0, s1, s2, s3⟩ := hSw; go_simp⟩) (by assumption) ?_
      (try simp only [Act.put, List.setIfInBounds_toArray, List.set_cons_zero, List.set_cons_succ])
      refine wpAnyH_take (i := 7) (oi := ⟨some 70, _, _, _, _, _⟩) (v := .pointer (some ⟨hh, 0, none⟩)) rfl (by kernel_rfl) (by kernel_rfl) (by kernel_rfl) (fun _ _ _ h => h) (Or.inl ⟨by kernel_rfl, by intro WW hSw; obtain ⟨s0, s1, s2, s3⟩ := hSw; go_simp⟩) (by assumption) ?_
      (try simp only [Act.put, List.setIfInBounds_toArray, List.set_cons_zero, List.set_cons_succ])
      refine wpAnyH_take (i := 8) (oi := ⟨some 71, _, _, _, _, _⟩) (v := .pointer (some ⟨hh, 0, none⟩)) rfl (by kernel_rfl) (by kernel_rfl) (by kernel_rfl) (fun _ _ _ h => h) (Or.inl ⟨by kernel_rfl, by intro WW hSw; obtain ⟨s0, s1, s2, s3⟩ := hSw; go_simp⟩) (by assumption) ?_
      (try simp only [Act.put, List.setIfInBounds_toArray, List.set_cons_zero, List.set_cons_succ])
      refine wpAnyH_take (i := 9) (oi := ⟨some 72, _, _, _, _, _⟩) (v := .pointer (some ⟨yb, 0, none⟩)) rfl (by kernel_rfl) (by kernel_rfl) (by kernel_rfl) (fun _ _ _ h => h) (Or.inl ⟨by kernel_rfl, by intro WW hSw; obtain ⟨s0, s1, s2, s3⟩ := hSw; go_simp⟩) (by assumption) ?_
      (try simp only [Act.put, List.setIfInBounds_toArray, List.set_cons_zero, List.set_cons_succ])
      refine wpAnyH_take (i := 10) (oi := ⟨some 73, _, _, _, _, _⟩) (v := .pointer (some ⟨gg, 0, none⟩)) rfl (by kernel_rfl) (by kernel_rfl) (by kernel_rfl) (fun _ _ _ h => h) (Or.inl ⟨by kernel_rfl, by intro WW hSw; obtain ⟨s0, s1, s2, s3⟩ := hSw; go_simp⟩) (by assumption) ?_
      (try simp only [Act.put, List.setIfInBounds_toArray, List.set_cons_zero, List.set_cons_succ])
      refine wpAnyH_take (i := 11) (oi := ⟨some 74, _, _, _, _, _⟩) (v := .pointer (some ⟨gg, 0, none⟩)) rfl (by kernel_rfl) (by kernel_rfl) (by kernel_rfl) (fun _ _ _ h => h) (Or.inl ⟨by kernel_rfl, by intro WW hSw; obtain ⟨s0, s1, s2, s3⟩ := hSw; go_simp⟩) (by assumption) ?_
      (try simp only [Act.put, List.setIfInBounds_toArray, List.set_cons_zero, List.set_cons_succ])
      refine wpAnyH_take (i := 12) (oi := ⟨some 75, _, _, _, _, _⟩) (v := .pointer (some ⟨gg, 0, none⟩)) rfl (by kernel_rfl) (by kernel_rfl) (by kernel_rfl) (fun _ _ _ h => h) (Or.inl ⟨by kernel_rfl, by intro WW hSw; obtain ⟨s0, s1, s2, s3⟩ := hSw; go_simp⟩) (by assumption) ?_
      (try simp only [Act.put, List.setIfInBounds_toArray, List.set_cons_zero, List.set_cons_succ])
      refine wpAnyH_take (i := 13) (oi := ⟨some 76, _, _, _, _, _⟩) (v := .pointer (some ⟨ya, 0, none⟩)) rfl (by kernel_rfl) (by kernel_rfl) (by kernel_rfl) (fun _ _ _ h => h) (Or.inl ⟨by kernel_rfl, by intro WW hSw; obtain ⟨s0, s1, s2, s3⟩ := hSw; go_simp⟩) (by assumption) ?_
      (try simp only [Act.put, List.setIfInBounds_toArray, List.set_cons_zero, List.set_cons_succ])
      have z0B := Lib.hid (drew_below x3)
      refine wpAnyH_one (i := 14) (oi := ⟨_, _, _, _, _, _⟩) rfl (by kernel_rfl) (fun K hK => ?_)
      refine step_calls (by rfl) 22 EGSame.out [.tmp 72, .tmp 76] _ rfl [.pointer (some ⟨yb, 0, none⟩), .pointer (some ⟨ya, 0, none⟩)] rfl ((HLK.out _ z0B.out).ps2 true ⟨fun _ => sameR_refl r, fun _ => rfl⟩) ?_
      rintro e z1 ⟨rfl, hb⟩
      have z1B := Lib.hid (Below.and z0B.out hb)
      refine ⟨_, rfl, hK _ _ (HS.out _ z1B.out) (fun _ => ?_)⟩
      clear hHeld
      have hHeld := HS.out _ z1B.out
      clear hK K hb
      (try simp only [Act.put, List.setIfInBounds_toArray, List.set_cons_zero, List.set_cons_succ])
      refine wpAnyH_take (i := 15) (oi := ⟨some 78, _, _, _, _, _⟩) (v := .bool false) rfl (by kernel_rfl) (by kernel_rfl) (by kernel_rfl) (fun _ _ _ h => h) (Or.inl ⟨by kernel_rfl, by intro WW hSw; obtain ⟨s0, s1, s2, s3⟩ := hSw; go_simp⟩) (by assumption) ?_
      (try simp only [Act.put, List.setIfInBounds_toArray, List.set_cons_zero, List.set_cons_succ])
      refine wpAnyH_take (i := 16) (oi := ⟨some 79, _, _, _, _, _⟩) (v := .bool false) rfl (by kernel_rfl) (by kernel_rfl) (by kernel_rfl) (fun _ _ _ h => h) (Or.inl ⟨by kernel_rfl, by intro WW hSw; obtain ⟨s0, s1, s2, s3⟩ := hSw; go_simp⟩) (by assumption) ?_
      (try simp only [Act.put, List.setIfInBounds_toArray, List.set_cons_zero, List.set_cons_succ])
      refine wpAnyH_take (i := 17) (oi := ⟨some 80, _, _, _, _, _⟩) (v := .bool false) rfl (by kernel_rfl) (by kernel_rfl) (by kernel_rfl) (fun _ _ _ h => h) (Or.inl ⟨by kernel_rfl, by intro WW hSw; obtain ⟨s0, s1, s2, s3⟩ := hSw; go_simp⟩) (by assumption) ?_
      (try simp only [Act.put, List.setIfInBounds_toArray, List.set_cons_zero, List.set_cons_succ])
      refine wpAnyH_take (i := 18) (oi := ⟨some 81, _, _, _, _, _⟩) (v := .pointer (some ⟨hh, 0, none⟩)) rfl (by kernel_rfl) (by kernel_rfl) (by kernel_rfl) (fun _ _ _ h => h) (Or.inl ⟨by kernel_rfl, by intro WW hSw; obtain ⟨s0, s1, s2, s3⟩ := hSw; go_simp⟩) (by assumption) ?_
      (try simp only [Act.put, List.setIfInBounds_toArray, List.set_cons_zero, List.set_cons_succ])
      refine wpAnyH_one (i := 19) (oi := ⟨_, _, _, _, _, _⟩) rfl (by kernel_rfl) (fun K hK => ?_)
      refine step_calls (by rfl) 12 EGgsame.out [.tmp 81] _ rfl [.pointer (some ⟨hh, 0, none⟩)] rfl ((HLK.out _ z1B.out).same2) ?_
      rintro e z2 ⟨rfl, hb⟩
      have z2B := Lib.hid (Below.and z1B.out hb)
      refine ⟨_, rfl, hK _ _ (HS.out _ z2B.out) (fun _ => ?_)⟩
      clear hHeld
      have hHeld := HS.out _ z2B.out
      clear hK K hb
      (try simp only [Act.put, List.setIfInBounds_toArray, List.set_cons_zero, List.set_cons_succ])
      refine wpAnyH_take (i := 20) (oi := ⟨some 83, _, _, _, _, _⟩) (v := .bool false) rfl (by kernel_rfl) (by kernel_rfl) (by kernel_rfl) (fun _ _ _ h => h) (Or.inl ⟨by kernel_rfl, by intro WW hSw; obtain ⟨s0, s1, s2, s3⟩ := hSw; go_simp⟩) (by assumption) ?_
      (try simp only [Act.put, List.setIfInBounds_toArray, List.set_cons_zero, List.set_cons_succ])
      refine wpAnyH_take (i := 21) (oi := ⟨some 84, _, _, _, _, _⟩) (v := .bool false) rfl (by kernel_rfl) (by kernel_rfl) (by kernel_rfl) (fun _ _ _ h => h) (Or.inl ⟨by kernel_rfl, by intro WW hSw; obtain ⟨s0, s1, s2, s3⟩ := hSw; go_simp⟩) (by assumption) ?_
      (try simp only [Act.put, List.setIfInBounds_toArray, List.set_cons_zero, List.set_cons_succ])
      refine wpAnyH_done (by kernel_rfl) ?_ _
      unfold NoPanic
      clear hHeld
      have HT2 := Lib.hid (HT.out.below z2B.out)
      clear HT HLK HS z0B z1B z2B
      go_wp2
      go_loopg [12] n3 (fun k v wr => ∃ (j : Nat) (s' : St) (r' : Rf), v = .int .i64 (j : Int) ∧ j ≤ n3 ∧ n3 - j ≤ k ∧ TG w gg hh nl (40 + j) wr s' r' s r)
      case atStart => exact ⟨0, s, r, rfl, by omega, by omega, HT2.out⟩
      case round =>
        obtain ⟨ix, s', r', rfl, hinx, hkx, hTx⟩ := hrel
        rename World => wx
        have HTX := Lib.hid hTx
        clear hTx HT2
        by_cases hltx : ix < n3
        · obtain ⟨gx, ksx, rfl, hA⟩ := HAT3.out (by rw [HL3.out]; omega)
          have hjl : ix < lx.length := by rw [HL3.out]; exact hltx
          obtain ⟨c0, c1, c2, c3, c4, c5⟩ := (hA.below HTX.out.low).cells hjl
          have HST := Lib.hid (HTX.out.act hnl8 (by omega) (hA.kp ix hjl) (H203.out ix hjl) (hA.a ix hjl).1 (hA.a ix hjl).2)
          unfold actA at HST
          clear hA hjl
          go_wp2_with fail
          refine HST.out.mono ?_
          rintro e w3 ⟨rfl, hP3⟩
          have HP3 := Lib.hid hP3
          clear hP3
          go_wp2
          go_roundg (n3 - (ix + 1))
          case measure => omega
          case rel => exact ⟨ix + 1, _, _, by go_num, by omega, by omega, HP3.out⟩
        · have hdx : decide ((ix : Int) < (n3 : Int)) = false := by simp; omega
          obtain ⟨ya, ga, yb, gb, hlook⟩ := HTX.out.looks hnl8
          have HLK := Lib.hid hlook
          clear hlook
          go_wp2_with fail
          refine ((HLK.out _ (Below.refl _ _)).same2).mono ?_
          rintro e w4 ⟨rfl, hb4⟩
          have HT4 := Lib.hid ((HTX.out.below hb4).mono (show 40 + ix ≤ 60 by omega)).swap
          clear hb4 HTX HLK
          go_wp2
          go_loopg [13] n4 (fun k v wr => ∃ (j : Nat) (s2 : St) (r2 : Rf), v = .int .i64 (j : Int) ∧ j ≤ n4 ∧ n4 - j ≤ k ∧ TG w hh gg nl (60 + j) wr s2 r2 s' r')
          case atStart => exact ⟨0, s, r, rfl, by omega, by omega, HT4.out⟩
          case round =>
            obtain ⟨iy, s2, r2, rfl, hiny, hky, hTy⟩ := hrel
            rename World => wy
            have HTY := Lib.hid hTy
            clear hTy HT4
            by_cases hlty : iy < n4
            · obtain ⟨gy, ksy, rfl, hA⟩ := HAT4.out (by rw [HL4.out]; omega)
              have hjl : iy < ly.length := by rw [HL4.out]; exact hlty
              obtain ⟨c0, c1, c2, c3, c4, c5⟩ := (hA.below HTY.out.low).cells hjl
              have HST := Lib.hid (HTY.out.act hnl8 (by omega) (hA.kp iy hjl) (H204.out iy hjl) (hA.a iy hjl).1 (hA.a iy hjl).2)
              unfold actA at HST
              clear hA hjl
              go_wp2_with fail
              refine HST.out.mono ?_
              rintro e w3 ⟨rfl, hP3⟩
              have HP3 := Lib.hid hP3
              clear hP3
              go_wp2
              go_roundg (n4 - (iy + 1))
              case measure => omega
              case rel => exact ⟨iy + 1, _, _, by go_num, by omega, by omega, HP3.out⟩
            · have hdy : decide ((iy : Int) < (n4 : Int)) = false := by simp; omega
              have HT5 := Lib.hid HTY.out.swap
              clear HTY
              obtain ⟨ya, ga, yb, gb, hlook⟩ := HT5.out.looks hnl8
              have HLK := Lib.hid hlook
              clear hlook
              have HRN := Lib.hid (show r'.nl = r2.nl by rw [HT5.out.rel.nl, HT5.out.rel2.nl, HT5.out.en, HT5.out.en2])
              have hLx := HT5.out.sm.l
              have hLy := HT5.out.sm2.l
              have HS := Lib.hid (fun (W : World) (hb : Below wy.heap.size wy W) => (show (fun WW => WW.cell? ⟨gg, 0, none⟩ = some (.pointer (some ⟨ya, 0, none⟩)) ∧ WW.cell? ⟨hh, 0, none⟩ = some (.pointer (some ⟨yb, 0, none⟩)) ∧ WW.cell? ⟨gg, 1, none⟩ = some (.pointer (some ⟨ga, 0, none⟩)) ∧ WW.cell? ⟨hh, 1, none⟩ = some (.pointer (some ⟨gb, 0, none⟩))) W from ⟨(HLK.out W hb).c0, (HLK.out W hb).d0, (HLK.out W hb).c1, (HLK.out W hb).d1⟩))
              by_cases hsame : SameR r' r2
              · skip
                have HB := Lib.hid hsame
                clear hsame
                go_upto_region 26 with (fail)
                refine wp_region_noPanic ?_
                refine wp_region_held_drew (S := (fun WW => WW.cell? ⟨gg, 0, none⟩ = some (.pointer (some ⟨ya, 0, none⟩)) ∧ WW.cell? ⟨hh, 0, none⟩ = some (.pointer (some ⟨yb, 0, none⟩)) ∧ WW.cell? ⟨gg, 1, none⟩ = some (.pointer (some ⟨ga, 0, none⟩)) ∧ WW.cell? ⟨hh, 1, none⟩ = some (.pointer (some ⟨gb, 0, none⟩)))) (by kernel_rfl) (HS.out _ (drew_below _)) (fun hHeld => ?_)
                refine wpAnyH_take (i := 0) (oi := ⟨some 114, _, _, _, _, _⟩) (v := .pointer (some ⟨gg, 0, none⟩)) rfl (by kernel_rfl) (by kernel_rfl) (by kernel_rfl) (fun _ _ _ h => h) (Or.inl ⟨by kernel_rfl, by intro WW hSw; obtain ⟨s0, s1, s2, s3⟩ := hSw; go_simp⟩) (by assumption) ?_
                (try simp only [Act.put, List.setIfInBounds_toArray, List.set_cons_zero, List.set_cons_succ])
                refine wpAnyH_take (i := 1) (oi := ⟨some 115, _, _, _, _, _⟩) (v := .pointer (some ⟨gg, 0, none⟩)) rfl (by kernel_rfl) (by kernel_rfl) (by kernel_rfl) (fun _ _ _ h => h) (Or.inl ⟨by kernel_rfl, by intro WW hSw; obtain ⟨s0, s1, s2, s3⟩ := hSw; go_simp⟩) (by assumption) ?_
                (try simp only [Act.put, List.setIfInBounds_toArray, List.set_cons_zero, List.set_cons_succ])
                refine wpAnyH_take (i := 2) (oi := ⟨some 116, _, _, _, _, _⟩) (v := .pointer (some ⟨gg, 1, none⟩)) rfl (by kernel_rfl) (by kernel_rfl) (by kernel_rfl) (fun _ _ _ h => h) (Or.inl ⟨by kernel_rfl, by intro WW hSw; obtain ⟨s0, s1, s2, s3⟩ := hSw; go_simp⟩) (by assumption) ?_
                (try simp only [Act.put, List.setIfInBounds_toArray, List.set_cons_zero, List.set_cons_succ])
                refine wpAnyH_take (i := 3) (oi := ⟨some 117, _, _, _, _, _⟩) (v := .pointer (some ⟨ga, 0, none⟩)) rfl (by kernel_rfl) (by kernel_rfl) (by kernel_rfl) (fun _ _ _ h => h) (Or.inl ⟨by kernel_rfl, by intro WW hSw; obtain ⟨s0, s1, s2, s3⟩ := hSw; go_simp⟩) (by assumption) ?_
                (try simp only [Act.put, List.setIfInBounds_toArray, List.set_cons_zero, List.set_cons_succ])
                refine wpAnyH_take (i := 4) (oi := ⟨some 118, _, _, _, _, _⟩) (v := .pointer (some ⟨hh, 0, none⟩)) rfl (by kernel_rfl) (by kernel_rfl) (by kernel_rfl) (fun _ _ _ h => h) (Or.inl ⟨by kernel_rfl, by intro WW hSw; obtain ⟨s0, s1, s2, s3⟩ := hSw; go_simp⟩) (by assumption) ?_
                (try simp only [Act.put, List.setIfInBounds_toArray, List.set_cons_zero, List.set_cons_succ])
                refine wpAnyH_take (i := 5) (oi := ⟨some 119, _, _, _, _, _⟩) (v := .pointer (some ⟨hh, 0, none⟩)) rfl (by kernel_rfl) (by kernel_rfl) (by kernel_rfl) (fun _ _ _ h => h) (Or.inl ⟨by kernel_rfl, by intro WW hSw; obtain ⟨s0, s1, s2, s3⟩ := hSw; go_simp⟩) (by assumption) ?_
                (try simp only [Act.put, List.setIfInBounds_toArray, List.set_cons_zero, List.set_cons_succ])
                refine wpAnyH_take (i := 6) (oi := ⟨some 120, _, _, _, _, _⟩) (v := .pointer (some ⟨hh, 1, none⟩)) rfl (by kernel_rfl) (by kernel_rfl) (by kernel_rfl) (fun _ _ _ h => h) (Or.inl ⟨by kernel_rfl, by intro WW hSw; obtain ⟨s0, s1, s2, s3⟩ := hSw; go_simp⟩) (by assumption) ?_
                (try simp only [Act.put, List.setIfInBounds_toArray, List.set_cons_zero, List.set_cons_succ])
                refine wpAnyH_take (i := 7) (oi := ⟨some 121, _, _, _, _, _⟩) (v := .pointer (some ⟨gb, 0, none⟩)) rfl (by kernel_rfl) (by kernel_rfl) (by kernel_rfl) (fun _ _ _ h => h) (Or.inl ⟨by kernel_rfl, by intro WW hSw; obtain ⟨s0, s1, s2, s3⟩ := hSw; go_simp⟩) (by assumption) ?_
                (try simp only [Act.put, List.setIfInBounds_toArray, List.set_cons_zero, List.set_cons_succ])
                have z0B := Lib.hid (drew_below wy)
                have HRS : Hid (Calls Try.prog 23 #[.pointer (some ⟨ga, 0, none⟩), .pointer (some ⟨gb, 0, none⟩)] wy.drew fun e w' => e = .returned (.bool true) ∧ Below wy.drew.heap.size wy.drew w') := Lib.hid (by
                  obtain ⟨q1, q2, q3, q4, q5, q6, k1, k2⟩ := (HLK.out _ z0B.out).R
                  exact r2Same_any k1 k2 HT5.out.rel HT5.out.rel2 HRN.out (by rw [HT5.out.rel.nl, HT5.out.en]; exact hnl8) ⟨by omega, by omega⟩ ⟨fun _ => HB.out, fun _ => rfl⟩)
                refine wpAnyH_one (i := 8) (oi := ⟨_, _, _, _, _, _⟩) rfl (by kernel_rfl) (fun K hK => ?_)
                refine step_calls (by rfl) 23 EGr2Same.out [.tmp 117, .tmp 121] _ rfl [.pointer (some ⟨ga, 0, none⟩), .pointer (some ⟨gb, 0, none⟩)] rfl (HRS.out) ?_
                rintro e z1 ⟨rfl, hb⟩
                have z1B := Lib.hid (Below.and z0B.out hb)
                refine ⟨_, rfl, hK _ _ (HS.out _ z1B.out) (fun _ => ?_)⟩
                clear hHeld
                have hHeld := HS.out _ z1B.out
                clear hK K hb
                (try simp only [Act.put, List.setIfInBounds_toArray, List.set_cons_zero, List.set_cons_succ])
                refine wpAnyH_take (i := 9) (oi := ⟨some 14, _, _, _, _, _⟩) (v := .bool true) rfl (by kernel_rfl) (by kernel_rfl) (by kernel_rfl) (fun _ _ _ h => h) (Or.inl ⟨by kernel_rfl, by intro WW hSw; obtain ⟨s0, s1, s2, s3⟩ := hSw; go_simp⟩) (by assumption) ?_
                (try simp only [Act.put, List.setIfInBounds_toArray, List.set_cons_zero, List.set_cons_succ])
                refine wpAnyH_done (by kernel_rfl) ?_ _
                unfold NoPanic
                clear hHeld
                have z2B := Lib.hid (Below.and z1B.out (drew_below z1))
                go_upto_region 27 with (fail)
                refine wp_region_noPanic ?_
                refine wp_region_held_drew (S := (fun WW => WW.cell? ⟨gg, 0, none⟩ = some (.pointer (some ⟨ya, 0, none⟩)) ∧ WW.cell? ⟨hh, 0, none⟩ = some (.pointer (some ⟨yb, 0, none⟩)) ∧ WW.cell? ⟨gg, 1, none⟩ = some (.pointer (some ⟨ga, 0, none⟩)) ∧ WW.cell? ⟨hh, 1, none⟩ = some (.pointer (some ⟨gb, 0, none⟩)))) (by kernel_rfl) (HS.out _ z2B.out) (fun hHeld => ?_)
                refine wpAnyH_take (i := 0) (oi := ⟨some 123, _, _, _, _, _⟩) (v := .pointer (some ⟨gg, 0, none⟩)) rfl (by kernel_rfl) (by kernel_rfl) (by kernel_rfl) (fun _ _ _ h => h) (Or.inl ⟨by kernel_rfl, by intro WW hSw; obtain ⟨s0, s1, s2, s3⟩ := hSw; go_simp⟩) (by assumption) ?_
                (try simp only [Act.put, List.setIfInBounds_toArray, List.set_cons_zero, List.set_cons_succ])
                refine wpAnyH_one (i := 1) (oi := ⟨_, _, _, _, _, _⟩) rfl (by kernel_rfl) (fun K hK => ?_)
                refine step_calls (by rfl) 12 EGgsame.out [.tmp 123] _ rfl [.pointer (some ⟨gg, 0, none⟩)] rfl ((HLK.out _ z2B.out).same) ?_
                rintro e z3 ⟨rfl, hb⟩
                have z3B := Lib.hid (Below.and z2B.out hb)
                refine ⟨_, rfl, hK _ _ (HS.out _ z3B.out) (fun _ => ?_)⟩
                clear hHeld
                have hHeld := HS.out _ z3B.out
                clear hK K hb
                (try simp only [Act.put, List.setIfInBounds_toArray, List.set_cons_zero, List.set_cons_succ])
                refine wpAnyH_take (i := 2) (oi := ⟨some 125, _, _, _, _, _⟩) (v := .bool true) rfl (by kernel_rfl) (by kernel_rfl) (by kernel_rfl) (fun _ _ _ h => h) (Or.inl ⟨by kernel_rfl, by intro WW hSw; obtain ⟨s0, s1, s2, s3⟩ := hSw; go_simp⟩) (by assumption) ?_
                (try simp only [Act.put, List.setIfInBounds_toArray, List.set_cons_zero, List.set_cons_succ])
                refine wpAnyH_take (i := 3) (oi := ⟨some 126, _, _, _, _, _⟩) (v := .pointer (some ⟨gg, 0, none⟩)) rfl (by kernel_rfl) (by kernel_rfl) (by kernel_rfl) (fun _ _ _ h => h) (Or.inl ⟨by kernel_rfl, by intro WW hSw; obtain ⟨s0, s1, s2, s3⟩ := hSw; go_simp⟩) (by assumption) ?_
                (try simp only [Act.put, List.setIfInBounds_toArray, List.set_cons_zero, List.set_cons_succ])
                refine wpAnyH_take (i := 4) (oi := ⟨some 127, _, _, _, _, _⟩) (v := .pointer (some ⟨gg, 0, none⟩)) rfl (by kernel_rfl) (by kernel_rfl) (by kernel_rfl) (fun _ _ _ h => h) (Or.inl ⟨by kernel_rfl, by intro WW hSw; obtain ⟨s0, s1, s2, s3⟩ := hSw; go_simp⟩) (by assumption) ?_
                (try simp only [Act.put, List.setIfInBounds_toArray, List.set_cons_zero, List.set_cons_succ])
                refine wpAnyH_take (i := 5) (oi := ⟨some 128, _, _, _, _, _⟩) (v := .pointer (some ⟨gg, 0, none⟩)) rfl (by kernel_rfl) (by kernel_rfl) (by kernel_rfl) (fun _ _ _ h => h) (Or.inl ⟨by kernel_rfl, by intro WW hSw; obtain ⟨s0, s1, s2, s3⟩ := hSw; go_simp⟩) (by assumption) ?_
                (try simp only [Act.put, List.setIfInBounds_toArray, List.set_cons_zero, List.set_cons_succ])
                refine wpAnyH_take (i := 6) (oi := ⟨some 129, _, _, _, _, _⟩) (v := .pointer (some ⟨ya, 0, none⟩)) rfl (by kernel_rfl) (by kernel_rfl) (by kernel_rfl) (fun _ _ _ h => h) (Or.inl ⟨by kernel_rfl, by intro WW hSw; obtain ⟨s0, s1, s2, s3⟩ := hSw; go_simp⟩) (by assumption) ?_
                (try simp only [Act.put, List.setIfInBounds_toArray, List.set_cons_zero, List.set_cons_succ])
                refine wpAnyH_take (i := 7) (oi := ⟨some 130, _, _, _, _, _⟩) (v := .pointer (some ⟨hh, 0, none⟩)) rfl (by kernel_rfl) (by kernel_rfl) (by kernel_rfl) (fun _ _ _ h => h) (Or.inl ⟨by kernel_rfl, by intro WW hSw; obtain ⟨s0, s1, s2, s3⟩ := hSw; go_simp⟩) (by assumption) ?_
                (try simp only [Act.put, List.setIfInBounds_toArray, List.set_cons_zero, List.set_cons_succ])
                refine wpAnyH_take (i := 8) (oi := ⟨some 131, _, _, _, _, _⟩) (v := .pointer (some ⟨hh, 0, none⟩)) rfl (by kernel_rfl) (by kernel_rfl) (by kernel_rfl) (fun _ _ _ h => h) (Or.inl ⟨by kernel_rfl, by intro WW hSw; obtain ⟨s0, s1, s2, s3⟩ := hSw; go_simp⟩) (by assumption) ?_
                (try simp only [Act.put, List.setIfInBounds_toArray, List.set_cons_zero, List.set_cons_succ])
                refine wpAnyH_take (i := 9) (oi := ⟨some 132, _, _, _, _, _⟩) (v := .pointer (some ⟨hh, 0, none⟩)) rfl (by kernel_rfl) (by kernel_rfl) (by kernel_rfl) (fun _ _ _ h => h) (Or.inl ⟨by kernel_rfl, by intro WW hSw; obtain ⟨s0, s1, s2, s3⟩ := hSw; go_simp⟩) (by assumption) ?_
                (try simp only [Act.put, List.setIfInBounds_toArray, List.set_cons_zero, List.set_cons_succ])
                refine wpAnyH_take (i := 10) (oi := ⟨some 133, _, _, _, _, _⟩) (v := .pointer (some ⟨yb, 0, none⟩)) rfl (by kernel_rfl) (by kernel_rfl) (by kernel_rfl) (fun _ _ _ h => h) (Or.inl ⟨by kernel_rfl, by intro WW hSw; obtain ⟨s0, s1, s2, s3⟩ := hSw; go_simp⟩) (by assumption) ?_
                (try simp only [Act.put, List.setIfInBounds_toArray, List.set_cons_zero, List.set_cons_succ])
                refine wpAnyH_take (i := 12) (oi := ⟨some 135, _, _, _, _, _⟩) (v := .bool true) rfl (by kernel_rfl) (by kernel_rfl) (by kernel_rfl) (fun _ _ _ h => h) (Or.inl ⟨by kernel_rfl, by intro WW hSw; obtain ⟨s0, s1, s2, s3⟩ := hSw; go_simp⟩) (by assumption) ?_
                (try simp only [Act.put, List.setIfInBounds_toArray, List.set_cons_zero, List.set_cons_succ])
                refine wpAnyH_one (i := 11) (oi := ⟨_, _, _, _, _, _⟩) rfl (by kernel_rfl) (fun K hK => ?_)
                refine step_calls (by rfl) 22 EGSame.out [.tmp 129, .tmp 133] _ rfl [.pointer (some ⟨ya, 0, none⟩), .pointer (some ⟨yb, 0, none⟩)] rfl ((HLK.out _ z3B.out).ps true ⟨fun _ => HB.out, fun _ => rfl⟩) ?_
                rintro e z4 ⟨rfl, hb⟩
                have z4B := Lib.hid (Below.and z3B.out hb)
                refine ⟨_, rfl, hK _ _ (HS.out _ z4B.out) (fun _ => ?_)⟩
                clear hHeld
                have hHeld := HS.out _ z4B.out
                clear hK K hb
                (try simp only [Act.put, List.setIfInBounds_toArray, List.set_cons_zero, List.set_cons_succ])
                refine wpAnyH_take (i := 13) (oi := ⟨some 136, _, _, _, _, _⟩) (v := .bool true) rfl (by kernel_rfl) (by kernel_rfl) (by kernel_rfl) (fun _ _ _ h => h) (Or.inl ⟨by kernel_rfl, by intro WW hSw; obtain ⟨s0, s1, s2, s3⟩ := hSw; go_simp⟩) (by assumption) ?_
                (try simp only [Act.put, List.setIfInBounds_toArray, List.set_cons_zero, List.set_cons_succ])
                refine wpAnyH_take (i := 14) (oi := ⟨some 137, _, _, _, _, _⟩) (v := .bool true) rfl (by kernel_rfl) (by kernel_rfl) (by kernel_rfl) (fun _ _ _ h => h) (Or.inl ⟨by kernel_rfl, by intro WW hSw; obtain ⟨s0, s1, s2, s3⟩ := hSw; go_simp⟩) (by assumption) ?_
                (try simp only [Act.put, List.setIfInBounds_toArray, List.set_cons_zero, List.set_cons_succ])
                refine wpAnyH_take (i := 15) (oi := ⟨some 138, _, _, _, _, _⟩) (v := .bool true) rfl (by kernel_rfl) (by kernel_rfl) (by kernel_rfl) (fun _ _ _ h => h) (Or.inl ⟨by kernel_rfl, by intro WW hSw; obtain ⟨s0, s1, s2, s3⟩ := hSw; go_simp⟩) (by assumption) ?_
                (try simp only [Act.put, List.setIfInBounds_toArray, List.set_cons_zero, List.set_cons_succ])
                refine wpAnyH_take (i := 16) (oi := ⟨some 139, _, _, _, _, _⟩) (v := .pointer (some ⟨hh, 0, none⟩)) rfl (by kernel_rfl) (by kernel_rfl) (by kernel_rfl) (fun _ _ _ h => h) (Or.inl ⟨by kernel_rfl, by intro WW hSw; obtain ⟨s0, s1, s2, s3⟩ := hSw; go_simp⟩) (by assumption) ?_
                (try simp only [Act.put, List.setIfInBounds_toArray, List.set_cons_zero, List.set_cons_succ])
                refine wpAnyH_take (i := 17) (oi := ⟨some 140, _, _, _, _, _⟩) (v := .pointer (some ⟨hh, 0, none⟩)) rfl (by kernel_rfl) (by kernel_rfl) (by kernel_rfl) (fun _ _ _ h => h) (Or.inl ⟨by kernel_rfl, by intro WW hSw; obtain ⟨s0, s1, s2, s3⟩ := hSw; go_simp⟩) (by assumption) ?_
                (try simp only [Act.put, List.setIfInBounds_toArray, List.set_cons_zero, List.set_cons_succ])
                refine wpAnyH_take (i := 18) (oi := ⟨some 141, _, _, _, _, _⟩) (v := .pointer (some ⟨hh, 0, none⟩)) rfl (by kernel_rfl) (by kernel_rfl) (by kernel_rfl) (fun _ _ _ h => h) (Or.inl ⟨by kernel_rfl, by intro WW hSw; obtain ⟨s0, s1, s2, s3⟩ := hSw; go_simp⟩) (by assumption) ?_
                (try simp only [Act.put, List.setIfInBounds_toArray, List.set_cons_zero, List.set_cons_succ])
                refine wpAnyH_take (i := 19) (oi := ⟨some 142, _, _, _, _, _⟩) (v := .pointer (some ⟨yb, 0, none⟩)) rfl (by kernel_rfl) (by kernel_rfl) (by kernel_rfl) (fun _ _ _ h => h) (Or.inl ⟨by kernel_rfl, by intro WW hSw; obtain ⟨s0, s1, s2, s3⟩ := hSw; go_simp⟩) (by assumption) ?_
                (try simp only [Act.put, List.setIfInBounds_toArray, List.set_cons_zero, List.set_cons_succ])
                refine wpAnyH_take (i := 20) (oi := ⟨some 143, _, _, _, _, _⟩) (v := .pointer (some ⟨gg, 0, none⟩)) rfl (by kernel_rfl) (by kernel_rfl) (by kernel_rfl) (fun _ _ _ h => h) (Or.inl ⟨by kernel_rfl, by intro WW hSw; obtain ⟨s0, s1, s2, s3⟩ := hSw; go_simp⟩) (by assumption) ?_
                (try simp only [Act.put, List.setIfInBounds_toArray, List.set_cons_zero, List.set_cons_succ])
                refine wpAnyH_take (i := 21) (oi := ⟨some 144, _, _, _, _, _⟩) (v := .pointer (some ⟨gg, 0, none⟩)) rfl (by kernel_rfl) (by kernel_rfl) (by kernel_rfl) (fun _ _ _ h => h) (Or.inl ⟨by kernel_rfl, by intro WW hSw; obtain ⟨s0, s1, s2, s3⟩ := hSw; go_simp⟩) (by assumption) ?_
                (try simp only [Act.put, List.setIfInBounds_toArray, List.set_cons_zero, List.set_cons_succ])
                refine wpAnyH_take (i := 22) (oi := ⟨some 145, _, _, _, _, _⟩) (v := .pointer (some ⟨gg, 0, none⟩)) rfl (by kernel_rfl) (by kernel_rfl) (by kernel_rfl) (fun _ _ _ h => h) (Or.inl ⟨by kernel_rfl, by intro WW hSw; obtain ⟨s0, s1, s2, s3⟩ := hSw; go_simp⟩) (by assumption) ?_
                (try simp only [Act.put, List.setIfInBounds_toArray, List.set_cons_zero, List.set_cons_succ])
                refine wpAnyH_take (i := 23) (oi := ⟨some 146, _, _, _, _, _⟩) (v := .pointer (some ⟨ya, 0, none⟩)) rfl (by kernel_rfl) (by kernel_rfl) (by kernel_rfl) (fun _ _ _ h => h) (Or.inl ⟨by kernel_rfl, by intro WW hSw; obtain ⟨s0, s1, s2, s3⟩ := hSw; go_simp⟩) (by assumption) ?_
                (try simp only [Act.put, List.setIfInBounds_toArray, List.set_cons_zero, List.set_cons_succ])
                refine wpAnyH_take (i := 25) (oi := ⟨some 148, _, _, _, _, _⟩) (v := .bool true) rfl (by kernel_rfl) (by kernel_rfl) (by kernel_rfl) (fun _ _ _ h => h) (Or.inl ⟨by kernel_rfl, by intro WW hSw; obtain ⟨s0, s1, s2, s3⟩ := hSw; go_simp⟩) (by assumption) ?_
                (try simp only [Act.put, List.setIfInBounds_toArray, List.set_cons_zero, List.set_cons_succ])
                refine wpAnyH_one (i := 24) (oi := ⟨_, _, _, _, _, _⟩) rfl (by kernel_rfl) (fun K hK => ?_)
                refine step_calls (by rfl) 22 EGSame.out [.tmp 142, .tmp 146] _ rfl [.pointer (some ⟨yb, 0, none⟩), .pointer (some ⟨ya, 0, none⟩)] rfl ((HLK.out _ z4B.out).ps2 true ⟨fun _ => HB.out, fun _ => rfl⟩) ?_
                rintro e z5 ⟨rfl, hb⟩
                have z5B := Lib.hid (Below.and z4B.out hb)
                refine ⟨_, rfl, hK _ _ (HS.out _ z5B.out) (fun _ => ?_)⟩
                clear hHeld
                have hHeld := HS.out _ z5B.out
                clear hK K hb
                (try simp only [Act.put, List.setIfInBounds_toArray, List.set_cons_zero, List.set_cons_succ])
                refine wpAnyH_take (i := 26) (oi := ⟨some 149, _, _, _, _, _⟩) (v := .bool true) rfl (by kernel_rfl) (by kernel_rfl) (by kernel_rfl) (fun _ _ _ h => h) (Or.inl ⟨by kernel_rfl, by intro WW hSw; obtain ⟨s0, s1, s2, s3⟩ := hSw; go_simp⟩) (by assumption) ?_
                (try simp only [Act.put, List.setIfInBounds_toArray, List.set_cons_zero, List.set_cons_succ])
                refine wpAnyH_take (i := 27) (oi := ⟨some 150, _, _, _, _, _⟩) (v := .bool true) rfl (by kernel_rfl) (by kernel_rfl) (by kernel_rfl) (fun _ _ _ h => h) (Or.inl ⟨by kernel_rfl, by intro WW hSw; obtain ⟨s0, s1, s2, s3⟩ := hSw; go_simp⟩) (by assumption) ?_
                (try simp only [Act.put, List.setIfInBounds_toArray, List.set_cons_zero, List.set_cons_succ])
                refine wpAnyH_take (i := 28) (oi := ⟨some 151, _, _, _, _, _⟩) (v := .bool true) rfl (by kernel_rfl) (by kernel_rfl) (by kernel_rfl) (fun _ _ _ h => h) (Or.inl ⟨by kernel_rfl, by intro WW hSw; obtain ⟨s0, s1, s2, s3⟩ := hSw; go_simp⟩) (by assumption) ?_
                (try simp only [Act.put, List.setIfInBounds_toArray, List.set_cons_zero, List.set_cons_succ])
                refine wpAnyH_one (i := 29) (oi := ⟨_, _, _, _, _, _⟩) rfl (by kernel_rfl) (fun K hK => ?_)
                refine step_calls (by rfl) 8 EGknown2.out [] _ rfl [] rfl (known_any _) ?_
                rintro e z6 ⟨rfl, hb⟩
                have z6B := Lib.hid (Below.and z5B.out hb)
                refine ⟨_, rfl, hK _ _ (HS.out _ z6B.out) (fun _ => ?_)⟩
                clear hHeld
                have hHeld := HS.out _ z6B.out
                clear hK K hb
                (try simp only [Act.put, List.setIfInBounds_toArray, List.set_cons_zero, List.set_cons_succ])
                refine wpAnyH_take (i := 30) (oi := ⟨some 153, _, _, _, _, _⟩) (v := .bool true) rfl (by kernel_rfl) (by kernel_rfl) (by kernel_rfl) (fun _ _ _ h => h) (Or.inl ⟨by kernel_rfl, by intro WW hSw; obtain ⟨s0, s1, s2, s3⟩ := hSw; go_simp⟩) (by assumption) ?_
                (try simp only [Act.put, List.setIfInBounds_toArray, List.set_cons_zero, List.set_cons_succ])
                refine wpAnyH_take (i := 31) (oi := ⟨some 8, _, _, _, _, _⟩) (v := .bool true) rfl (by kernel_rfl) (by kernel_rfl) (by kernel_rfl) (fun _ _ _ h => h) (Or.inl ⟨by kernel_rfl, by intro WW hSw; obtain ⟨s0, s1, s2, s3⟩ := hSw; go_simp⟩) (by assumption) ?_
                (try simp only [Act.put, List.setIfInBounds_toArray, List.set_cons_zero, List.set_cons_succ])
                refine wpAnyH_done (by kernel_rfl) ?_ _
                unfold NoPanic
                clear hHeld
                have HE := Lib.hid (belowT HT5.out.low (belowB z6B.out HT5.out.low.size))
                go_wp2
                go_ret
                exact ⟨rfl, HE.out⟩
              · skip
                have HB := Lib.hid hsame
                clear hsame
                go_upto_region 26 with (fail)
                refine wp_region_noPanic ?_
                refine wp_region_held_drew (S := (fun WW => WW.cell? ⟨gg, 0, none⟩ = some (.pointer (some ⟨ya, 0, none⟩)) ∧ WW.cell? ⟨hh, 0, none⟩ = some (.pointer (some ⟨yb, 0, none⟩)) ∧ WW.cell? ⟨gg, 1, none⟩ = some (.pointer (some ⟨ga, 0, none⟩)) ∧ WW.cell? ⟨hh, 1, none⟩ = some (.pointer (some ⟨gb, 0, none⟩)))) (by kernel_rfl) (HS.out _ (drew_below _)) (fun hHeld => ?_)
                refine wpAnyH_take (i := 0) (oi := ⟨some 114, _, _, _, _, _⟩) (v := .pointer (some ⟨gg, 0, none⟩)) rfl (by kernel_rfl) (by kernel_rfl) (by kernel_rfl) (fun _ _ _ h => h) (Or.inl ⟨by kernel_rfl, by intro WW hSw; obtain ⟨s0, s1, s2, s3⟩ := hSw; go_simp⟩) (by assumption) ?_
                (try simp only [Act.put, List.setIfInBounds_toArray, List.set_cons_zero, List.set_cons_succ])
                refine wpAnyH_take (i := 1) (oi := ⟨some 115, _, _, _, _, _⟩) (v := .pointer (some ⟨gg, 0, none⟩)) rfl (by kernel_rfl) (by kernel_rfl) (by kernel_rfl) (fun _ _ _ h => h) (Or.inl ⟨by kernel_rfl, by intro WW hSw; obtain ⟨s0, s1, s2, s3⟩ := hSw; go_simp⟩) (by assumption) ?_
                (try simp only [Act.put, List.setIfInBounds_toArray, List.set_cons_zero, List.set_cons_succ])
                refine wpAnyH_take (i := 2) (oi := ⟨some 116, _, _, _, _, _⟩) (v := .pointer (some ⟨gg, 1, none⟩)) rfl (by kernel_rfl) (by kernel_rfl) (by kernel_rfl) (fun _ _ _ h => h) (Or.inl ⟨by kernel_rfl, by intro WW hSw; obtain ⟨s0, s1, s2, s3⟩ := hSw; go_simp⟩) (by assumption) ?_
                (try simp only [Act.put, List.setIfInBounds_toArray, List.set_cons_zero, List.set_cons_succ])
                refine wpAnyH_take (i := 3) (oi := ⟨some 117, _, _, _, _, _⟩) (v := .pointer (some ⟨ga, 0, none⟩)) rfl (by kernel_rfl) (by kernel_rfl) (by kernel_rfl) (fun _ _ _ h => h) (Or.inl ⟨by kernel_rfl, by intro WW hSw; obtain ⟨s0, s1, s2, s3⟩ := hSw; go_simp⟩) (by assumption) ?_
                (try simp only [Act.put, List.setIfInBounds_toArray, List.set_cons_zero, List.set_cons_succ])
                refine wpAnyH_take (i := 4) (oi := ⟨some 118, _, _, _, _, _⟩) (v := .pointer (some ⟨hh, 0, none⟩)) rfl (by kernel_rfl) (by kernel_rfl) (by kernel_rfl) (fun _ _ _ h => h) (Or.inl ⟨by kernel_rfl, by intro WW hSw; obtain ⟨s0, s1, s2, s3⟩ := hSw; go_simp⟩) (by assumption) ?_
                (try simp only [Act.put, List.setIfInBounds_toArray, List.set_cons_zero, List.set_cons_succ])
                refine wpAnyH_take (i := 5) (oi := ⟨some 119, _, _, _, _, _⟩) (v := .pointer (some ⟨hh, 0, none⟩)) rfl (by kernel_rfl) (by kernel_rfl) (by kernel_rfl) (fun _ _ _ h => h) (Or.inl ⟨by kernel_rfl, by intro WW hSw; obtain ⟨s0, s1, s2, s3⟩ := hSw; go_simp⟩) (by assumption) ?_
                (try simp only [Act.put, List.setIfInBounds_toArray, List.set_cons_zero, List.set_cons_succ])
                refine wpAnyH_take (i := 6) (oi := ⟨some 120, _, _, _, _, _⟩) (v := .pointer (some ⟨hh, 1, none⟩)) rfl (by kernel_rfl) (by kernel_rfl) (by kernel_rfl) (fun _ _ _ h => h) (Or.inl ⟨by kernel_rfl, by intro WW hSw; obtain ⟨s0, s1, s2, s3⟩ := hSw; go_simp⟩) (by assumption) ?_
                (try simp only [Act.put, List.setIfInBounds_toArray, List.set_cons_zero, List.set_cons_succ])
                refine wpAnyH_take (i := 7) (oi := ⟨some 121, _, _, _, _, _⟩) (v := .pointer (some ⟨gb, 0, none⟩)) rfl (by kernel_rfl) (by kernel_rfl) (by kernel_rfl) (fun _ _ _ h => h) (Or.inl ⟨by kernel_rfl, by intro WW hSw; obtain ⟨s0, s1, s2, s3⟩ := hSw; go_simp⟩) (by assumption) ?_
                (try simp only [Act.put, List.setIfInBounds_toArray, List.set_cons_zero, List.set_cons_succ])
                have z0B := Lib.hid (drew_below wy)
                have HRS : Hid (Calls Try.prog 23 #[.pointer (some ⟨ga, 0, none⟩), .pointer (some ⟨gb, 0, none⟩)] wy.drew fun e w' => e = .returned (.bool false) ∧ Below wy.drew.heap.size wy.drew w') := Lib.hid (by
                  obtain ⟨q1, q2, q3, q4, q5, q6, k1, k2⟩ := (HLK.out _ z0B.out).R
                  exact r2Same_any k1 k2 HT5.out.rel HT5.out.rel2 HRN.out (by rw [HT5.out.rel.nl, HT5.out.en]; exact hnl8) ⟨by omega, by omega⟩ ⟨fun q => (by cases q), fun q => absurd q HB.out⟩)
                refine wpAnyH_one (i := 8) (oi := ⟨_, _, _, _, _, _⟩) rfl (by kernel_rfl) (fun K hK => ?_)
                refine step_calls (by rfl) 23 EGr2Same.out [.tmp 117, .tmp 121] _ rfl [.pointer (some ⟨ga, 0, none⟩), .pointer (some ⟨gb, 0, none⟩)] rfl (HRS.out) ?_
                rintro e z1 ⟨rfl, hb⟩
                have z1B := Lib.hid (Below.and z0B.out hb)
                refine ⟨_, rfl, hK _ _ (HS.out _ z1B.out) (fun _ => ?_)⟩
                clear hHeld
                have hHeld := HS.out _ z1B.out
                clear hK K hb
                (try simp only [Act.put, List.setIfInBounds_toArray, List.set_cons_zero, List.set_cons_succ])
                refine wpAnyH_take (i := 9) (oi := ⟨some 14, _, _, _, _, _⟩) (v := .bool false) rfl (by kernel_rfl) (by kernel_rfl) (by kernel_rfl) (fun _ _ _ h => h) (Or.inl ⟨by kernel_rfl, by intro WW hSw; obtain ⟨s0, s1, s2, s3⟩ := hSw; go_simp⟩) (by assumption) ?_
                (try simp only [Act.put, List.setIfInBounds_toArray, List.set_cons_zero, List.set_cons_succ])
                refine wpAnyH_done (by kernel_rfl) ?_ _
                unfold NoPanic
                clear hHeld
                have z2B := Lib.hid (Below.and z1B.out (drew_below z1))
                go_upto_region 27 with (fail)
                refine wp_region_noPanic ?_
                refine wp_region_held_drew (S := (fun WW => WW.cell? ⟨gg, 0, none⟩ = some (.pointer (some ⟨ya, 0, none⟩)) ∧ WW.cell? ⟨hh, 0, none⟩ = some (.pointer (some ⟨yb, 0, none⟩)) ∧ WW.cell? ⟨gg, 1, none⟩ = some (.pointer (some ⟨ga, 0, none⟩)) ∧ WW.cell? ⟨hh, 1, none⟩ = some (.pointer (some ⟨gb, 0, none⟩)))) (by kernel_rfl) (HS.out _ z2B.out) (fun hHeld => ?_)
                refine wpAnyH_take (i := 0) (oi := ⟨some 123, _, _, _, _, _⟩) (v := .pointer (some ⟨gg, 0, none⟩)) rfl (by kernel_rfl) (by kernel_rfl) (by kernel_rfl) (fun _ _ _ h => h) (Or.inl ⟨by kernel_rfl, by intro WW hSw; obtain ⟨s0, s1, s2, s3⟩ := hSw; go_simp⟩) (by assumption) ?_
                (try simp only [Act.put, List.setIfInBounds_toArray, List.set_cons_zero, List.set_cons_succ])
                refine wpAnyH_one (i := 1) (oi := ⟨_, _, _, _, _, _⟩) rfl (by kernel_rfl) (fun K hK => ?_)
                refine step_calls (by rfl) 12 EGgsame.out [.tmp 123] _ rfl [.pointer (some ⟨gg, 0, none⟩)] rfl ((HLK.out _ z2B.out).same) ?_
                rintro e z3 ⟨rfl, hb⟩
                have z3B := Lib.hid (Below.and z2B.out hb)
                refine ⟨_, rfl, hK _ _ (HS.out _ z3B.out) (fun _ => ?_)⟩
                clear hHeld
                have hHeld := HS.out _ z3B.out
                clear hK K hb
                (try simp only [Act.put, List.setIfInBounds_toArray, List.set_cons_zero, List.set_cons_succ])
                refine wpAnyH_take (i := 2) (oi := ⟨some 125, _, _, _, _, _⟩) (v := .bool true) rfl (by kernel_rfl) (by kernel_rfl) (by kernel_rfl) (fun _ _ _ h => h) (Or.inl ⟨by kernel_rfl, by intro WW hSw; obtain ⟨s0, s1, s2, s3⟩ := hSw; go_simp⟩) (by assumption) ?_
                (try simp only [Act.put, List.setIfInBounds_toArray, List.set_cons_zero, List.set_cons_succ])
                refine wpAnyH_take (i := 3) (oi := ⟨some 126, _, _, _, _, _⟩) (v := .pointer (some ⟨gg, 0, none⟩)) rfl (by kernel_rfl) (by kernel_rfl) (by kernel_rfl) (fun _ _ _ h => h) (Or.inl ⟨by kernel_rfl, by intro WW hSw; obtain ⟨s0, s1, s2, s3⟩ := hSw; go_simp⟩) (by assumption) ?_
                (try simp only [Act.put, List.setIfInBounds_toArray, List.set_cons_zero, List.set_cons_succ])
                refine wpAnyH_take (i := 4) (oi := ⟨some 127, _, _, _, _, _⟩) (v := .pointer (some ⟨gg, 0, none⟩)) rfl (by kernel_rfl) (by kernel_rfl) (by kernel_rfl) (fun _ _ _ h => h) (Or.inl ⟨by kernel_rfl, by intro WW hSw; obtain ⟨s0, s1, s2, s3⟩ := hSw; go_simp⟩) (by assumption) ?_
                (try simp only [Act.put, List.setIfInBounds_toArray, List.set_cons_zero, List.set_cons_succ])
                refine wpAnyH_take (i := 5) (oi := ⟨some 128, _, _, _, _, _⟩) (v := .pointer (some ⟨gg, 0, none⟩)) rfl (by kernel_rfl) (by kernel_rfl) (by kernel_rfl) (fun _ _ _ h => h) (Or.inl ⟨by kernel_rfl, by intro WW hSw; obtain ⟨s0, s1, s2, s3⟩ := hSw; go_simp⟩) (by assumption) ?_
                (try simp only [Act.put, List.setIfInBounds_toArray, List.set_cons_zero, List.set_cons_succ])
                refine wpAnyH_take (i := 6) (oi := ⟨some 129, _, _, _, _, _⟩) (v := .pointer (some ⟨ya, 0, none⟩)) rfl (by kernel_rfl) (by kernel_rfl) (by kernel_rfl) (fun _ _ _ h => h) (Or.inl ⟨by kernel_rfl, by intro WW hSw; obtain ⟨s0, s1, s2, s3⟩ := hSw; go_simp⟩) (by assumption) ?_
                (try simp only [Act.put, List.setIfInBounds_toArray, List.set_cons_zero, List.set_cons_succ])
                refine wpAnyH_take (i := 7) (oi := ⟨some 130, _, _, _, _, _⟩) (v := .pointer (some ⟨hh, 0, none⟩)) rfl (by kernel_rfl) (by kernel_rfl) (by kernel_rfl) (fun _ _ _ h => h) (Or.inl ⟨by kernel_rfl, by intro WW hSw; obtain ⟨s0, s1, s2, s3⟩ := hSw; go_simp⟩) (by assumption) ?_
                (try simp only [Act.put, List.setIfInBounds_toArray, List.set_cons_zero, List.set_cons_succ])
                refine wpAnyH_take (i := 8) (oi := ⟨some 131, _, _, _, _, _⟩) (v := .pointer (some ⟨hh, 0, none⟩)) rfl (by kernel_rfl) (by kernel_rfl) (by kernel_rfl) (fun _ _ _ h => h) (Or.inl ⟨by kernel_rfl, by intro WW hSw; obtain ⟨s0, s1, s2, s3⟩ := hSw; go_simp⟩) (by assumption) ?_
                (try simp only [Act.put, List.setIfInBounds_toArray, List.set_cons_zero, List.set_cons_succ])
                refine wpAnyH_take (i := 9) (oi := ⟨some 132, _, _, _, _, _⟩) (v := .pointer (some ⟨hh, 0, none⟩)) rfl (by kernel_rfl) (by kernel_rfl) (by kernel_rfl) (fun _ _ _ h => h) (Or.inl ⟨by kernel_rfl, by intro WW hSw; obtain ⟨s0, s1, s2, s3⟩ := hSw; go_simp⟩) (by assumption) ?_
                (try simp only [Act.put, List.setIfInBounds_toArray, List.set_cons_zero, List.set_cons_succ])
                refine wpAnyH_take (i := 10) (oi := ⟨some 133, _, _, _, _, _⟩) (v := .pointer (some ⟨yb, 0, none⟩)) rfl (by kernel_rfl) (by kernel_rfl) (by kernel_rfl) (fun _ _ _ h => h) (Or.inl ⟨by kernel_rfl, by intro WW hSw; obtain ⟨s0, s1, s2, s3⟩ := hSw; go_simp⟩) (by assumption) ?_
                (try simp only [Act.put, List.setIfInBounds_toArray, List.set_cons_zero, List.set_cons_succ])
                refine wpAnyH_take (i := 12) (oi := ⟨some 135, _, _, _, _, _⟩) (v := .bool false) rfl (by kernel_rfl) (by kernel_rfl) (by kernel_rfl) (fun _ _ _ h => h) (Or.inl ⟨by kernel_rfl, by intro WW hSw; obtain ⟨s0, s1, s2, s3⟩ := hSw; go_simp⟩) (by assumption) ?_
                (try simp only [Act.put, List.setIfInBounds_toArray, List.set_cons_zero, List.set_cons_succ])
                refine wpAnyH_one (i := 11) (oi := ⟨_, _, _, _, _, _⟩) rfl (by kernel_rfl) (fun K hK => ?_)
                refine step_calls (by rfl) 22 EGSame.out [.tmp 129, .tmp 133] _ rfl [.pointer (some ⟨ya, 0, none⟩), .pointer (some ⟨yb, 0, none⟩)] rfl ((HLK.out _ z3B.out).ps false ⟨fun q => (by cases q), fun q => absurd q HB.out⟩) ?_
                rintro e z4 ⟨rfl, hb⟩
                have z4B := Lib.hid (Below.and z3B.out hb)
                refine ⟨_, rfl, hK _ _ (HS.out _ z4B.out) (fun _ => ?_)⟩
                clear hHeld
                have hHeld := HS.out _ z4B.out
                clear hK K hb
                (try simp only [Act.put, List.setIfInBounds_toArray, List.set_cons_zero, List.set_cons_succ])
                refine wpAnyH_take (i := 13) (oi := ⟨some 136, _, _, _, _, _⟩) (v := .bool true) rfl (by kernel_rfl) (by kernel_rfl) (by kernel_rfl) (fun _ _ _ h => h) (Or.inl ⟨by kernel_rfl, by intro WW hSw; obtain ⟨s0, s1, s2, s3⟩ := hSw; go_simp⟩) (by assumption) ?_
                (try simp only [Act.put, List.setIfInBounds_toArray, List.set_cons_zero, List.set_cons_succ])
                refine wpAnyH_take (i := 14) (oi := ⟨some 137, _, _, _, _, _⟩) (v := .bool true) rfl (by kernel_rfl) (by kernel_rfl) (by kernel_rfl) (fun _ _ _ h => h) (Or.inl ⟨by kernel_rfl, by intro WW hSw; obtain ⟨s0, s1, s2, s3⟩ := hSw; go_simp⟩) (by assumption) ?_
                (try simp only [Act.put, List.setIfInBounds_toArray, List.set_cons_zero, List.set_cons_succ])
                refine wpAnyH_take (i := 15) (oi := ⟨some 138, _, _, _, _, _⟩) (v := .bool true) rfl (by kernel_rfl) (by kernel_rfl) (by kernel_rfl) (fun _ _ _ h => h) (Or.inl ⟨by kernel_rfl, by intro WW hSw; obtain ⟨s0, s1, s2, s3⟩ := hSw; go_simp⟩) (by assumption) ?_
                (try simp only [Act.put, List.setIfInBounds_toArray, List.set_cons_zero, List.set_cons_succ])
                refine wpAnyH_take (i := 16) (oi := ⟨some 139, _, _, _, _, _⟩) (v := .pointer (some ⟨hh, 0, none⟩)) rfl (by kernel_rfl) (by kernel_rfl) (by kernel_rfl) (fun _ _ _ h => h) (Or.inl ⟨by kernel_rfl, by intro WW hSw; obtain ⟨s0, s1, s2, s3⟩ := hSw; go_simp⟩) (by assumption) ?_
                (try simp only [Act.put, List.setIfInBounds_toArray, List.set_cons_zero, List.set_cons_succ])
                refine wpAnyH_take (i := 17) (oi := ⟨some 140, _, _, _, _, _⟩) (v := .pointer (some ⟨hh, 0, none⟩)) rfl (by kernel_rfl) (by kernel_rfl) (by kernel_rfl) (fun _ _ _ h => h) (Or.inl ⟨by kernel_rfl, by intro WW hSw; obtain ⟨s0, s1, s2, s3⟩ := hSw; go_simp⟩) (by assumption) ?_
                (try simp only [Act.put, List.setIfInBounds_toArray, List.set_cons_zero, List.set_cons_succ])
                refine wpAnyH_take (i := 18) (oi := ⟨some 141, _, _, _, _, _⟩) (v := .pointer (some ⟨hh, 0, none⟩)) rfl (by kernel_rfl) (by kernel_rfl) (by kernel_rfl) (fun _ _ _ h => h) (Or.inl ⟨by kernel_rfl, by intro WW hSw; obtain ⟨s0, s1, s2, s3⟩ := hSw; go_simp⟩) (by assumption) ?_
                (try simp only [Act.put, List.setIfInBounds_toArray, List.set_cons_zero, List.set_cons_succ])
                refine wpAnyH_take (i := 19) (oi := ⟨some 142, _, _, _, _, _⟩) (v := .pointer (some ⟨yb, 0, none⟩)) rfl (by kernel_rfl) (by kernel_rfl) (by kernel_rfl) (fun _ _ _ h => h) (Or.inl ⟨by kernel_rfl, by intro WW hSw; obtain ⟨s0, s1, s2, s3⟩ := hSw; go_simp⟩) (by assumption) ?_
                (try simp only [Act.put, List.setIfInBounds_toArray, List.set_cons_zero, List.set_cons_succ])
                refine wpAnyH_take (i := 20) (oi := ⟨some 143, _, _, _, _, _⟩) (v := .pointer (some ⟨gg, 0, none⟩)) rfl (by kernel_rfl) (by kernel_rfl) (by kernel_rfl) (fun _ _ _ h => h) (Or.inl ⟨by kernel_rfl, by intro WW hSw; obtain ⟨s0, s1, s2, s3⟩ := hSw; go_simp⟩) (by assumption) ?_
                (try simp only [Act.put, List.setIfInBounds_toArray, List.set_cons_zero, List.set_cons_succ])
                refine wpAnyH_take (i := 21) (oi := ⟨some 144, _, _, _, _, _⟩) (v := .pointer (some ⟨gg, 0, none⟩)) rfl (by kernel_rfl) (by kernel_rfl) (by kernel_rfl) (fun _ _ _ h => h) (Or.inl ⟨by kernel_rfl, by intro WW hSw; obtain ⟨s0, s1, s2, s3⟩ := hSw; go_simp⟩) (by assumption) ?_
                (try simp only [Act.put, List.setIfInBounds_toArray, List.set_cons_zero, List.set_cons_succ])
                refine wpAnyH_take (i := 22) (oi := ⟨some 145, _, _, _, _, _⟩) (v := .pointer (some ⟨gg, 0, none⟩)) rfl (by kernel_rfl) (by kernel_rfl) (by kernel_rfl) (fun _ _ _ h => h) (Or.inl ⟨by kernel_rfl, by intro WW hSw; obtain ⟨s0, s1, s2, s3⟩ := hSw; go_simp⟩) (by assumption) ?_
                (try simp only [Act.put, List.setIfInBounds_toArray, List.set_cons_zero, List.set_cons_succ])
                refine wpAnyH_take (i := 23) (oi := ⟨some 146, _, _, _, _, _⟩) (v := .pointer (some ⟨ya, 0, none⟩)) rfl (by kernel_rfl) (by kernel_rfl) (by kernel_rfl) (fun _ _ _ h => h) (Or.inl ⟨by kernel_rfl, by intro WW hSw; obtain ⟨s0, s1, s2, s3⟩ := hSw; go_simp⟩) (by assumption) ?_
                (try simp only [Act.put, List.setIfInBounds_toArray, List.set_cons_zero, List.set_cons_succ])
                refine wpAnyH_take (i := 25) (oi := ⟨some 148, _, _, _, _, _⟩) (v := .bool false) rfl (by kernel_rfl) (by kernel_rfl) (by kernel_rfl) (fun _ _ _ h => h) (Or.inl ⟨by kernel_rfl, by intro WW hSw; obtain ⟨s0, s1, s2, s3⟩ := hSw; go_simp⟩) (by assumption) ?_
                (try simp only [Act.put, List.setIfInBounds_toArray, List.set_cons_zero, List.set_cons_succ])
                refine wpAnyH_one (i := 24) (oi := ⟨_, _, _, _, _, _⟩) rfl (by kernel_rfl) (fun K hK => ?_)
                refine step_calls (by rfl) 22 EGSame.out [.tmp 142, .tmp 146] _ rfl [.pointer (some ⟨yb, 0, none⟩), .pointer (some ⟨ya, 0, none⟩)] rfl ((HLK.out _ z4B.out).ps2 false ⟨fun q => (by cases q), fun q => absurd q HB.out⟩) ?_
                rintro e z5 ⟨rfl, hb⟩
                have z5B := Lib.hid (Below.and z4B.out hb)
                refine ⟨_, rfl, hK _ _ (HS.out _ z5B.out) (fun _ => ?_)⟩
                clear hHeld
                have hHeld := HS.out _ z5B.out
                clear hK K hb
                (try simp only [Act.put, List.setIfInBounds_toArray, List.set_cons_zero, List.set_cons_succ])
                refine wpAnyH_take (i := 26) (oi := ⟨some 149, _, _, _, _, _⟩) (v := .bool true) rfl (by kernel_rfl) (by kernel_rfl) (by kernel_rfl) (fun _ _ _ h => h) (Or.inl ⟨by kernel_rfl, by intro WW hSw; obtain ⟨s0, s1, s2, s3⟩ := hSw; go_simp⟩) (by assumption) ?_
                (try simp only [Act.put, List.setIfInBounds_toArray, List.set_cons_zero, List.set_cons_succ])
                refine wpAnyH_take (i := 27) (oi := ⟨some 150, _, _, _, _, _⟩) (v := .bool true) rfl (by kernel_rfl) (by kernel_rfl) (by kernel_rfl) (fun _ _ _ h => h) (Or.inl ⟨by kernel_rfl, by intro WW hSw; obtain ⟨s0, s1, s2, s3⟩ := hSw; go_simp⟩) (by assumption) ?_
                (try simp only [Act.put, List.setIfInBounds_toArray, List.set_cons_zero, List.set_cons_succ])
                refine wpAnyH_take (i := 28) (oi := ⟨some 151, _, _, _, _, _⟩) (v := .bool true) rfl (by kernel_rfl) (by kernel_rfl) (by kernel_rfl) (fun _ _ _ h => h) (Or.inl ⟨by kernel_rfl, by intro WW hSw; obtain ⟨s0, s1, s2, s3⟩ := hSw; go_simp⟩) (by assumption) ?_
                (try simp only [Act.put, List.setIfInBounds_toArray, List.set_cons_zero, List.set_cons_succ])
                refine wpAnyH_one (i := 29) (oi := ⟨_, _, _, _, _, _⟩) rfl (by kernel_rfl) (fun K hK => ?_)
                refine step_calls (by rfl) 8 EGknown2.out [] _ rfl [] rfl (known_any _) ?_
                rintro e z6 ⟨rfl, hb⟩
                have z6B := Lib.hid (Below.and z5B.out hb)
                refine ⟨_, rfl, hK _ _ (HS.out _ z6B.out) (fun _ => ?_)⟩
                clear hHeld
                have hHeld := HS.out _ z6B.out
                clear hK K hb
                (try simp only [Act.put, List.setIfInBounds_toArray, List.set_cons_zero, List.set_cons_succ])
                refine wpAnyH_take (i := 30) (oi := ⟨some 153, _, _, _, _, _⟩) (v := .bool true) rfl (by kernel_rfl) (by kernel_rfl) (by kernel_rfl) (fun _ _ _ h => h) (Or.inl ⟨by kernel_rfl, by intro WW hSw; obtain ⟨s0, s1, s2, s3⟩ := hSw; go_simp⟩) (by assumption) ?_
                (try simp only [Act.put, List.setIfInBounds_toArray, List.set_cons_zero, List.set_cons_succ])
                refine wpAnyH_take (i := 31) (oi := ⟨some 8, _, _, _, _, _⟩) (v := .bool true) rfl (by kernel_rfl) (by kernel_rfl) (by kernel_rfl) (fun _ _ _ h => h) (Or.inl ⟨by kernel_rfl, by intro WW hSw; obtain ⟨s0, s1, s2, s3⟩ := hSw; go_simp⟩) (by assumption) ?_
                (try simp only [Act.put, List.setIfInBounds_toArray, List.set_cons_zero, List.set_cons_succ])
                refine wpAnyH_done (by kernel_rfl) ?_ _
                unfold NoPanic
                clear hHeld
                have HE := Lib.hid (belowT HT5.out.low (belowB z6B.out HT5.out.low.size))
                go_wp2
                go_ret
                exact ⟨rfl, HE.out⟩
end Go.Proofs.Ytkeajfedlhgejaa
/- PmemCopies as its row hands it its arguments; no conditions. -/
namespace Go.Proofs.Ytkeajfedlhgejaa
open Go Go.RowKit
set_option linter.unusedVariables false
theorem copies_walk (a0 : Option Addr) (len0 cap0 : Nat) (z0 : List Int) (a1 : Option Addr) (len1 cap1 : Nat) (z1 : List Act2) (a2 : Option Addr) (len2 cap2 : Nat) (z2 : List Act2) (a3 : Option Addr) (len3 cap3 : Nat) (z3 : List Act2) (W : World) (w0 : InRow .u8 W a0 len0 cap0 z0) (w1 : Acts2In W a1 len1 cap1 z1) (w2 : Acts2In W a2 len2 cap2 z2) (w3 : Acts2In W a3 len3 cap3 z3) :
    Calls Try.prog 6 #[.slice a0 len0 cap0, .slice a1 len1 cap1, .slice a2 len2 cap2, .slice a3 len3 cap3] W fun e w' => e = .returned (.bool true) ∧ Below W.heap.size W w' := by
  obtain ⟨⟨l, hb⟩, hn⟩ := bsAt_of w0
  cases h1 : fewB z1 40
  · exact copies2_no1 hb w1 w2 w3 hn h1
  cases h2 : fewB z2 20
  · exact copies2_no2 hb w1 w2 w3 hn h1 h2
  cases h3 : fewB z3 20
  · exact copies2_no3 hb w1 w2 w3 hn h1 h2 h3
  cases h4 : fitsB len0
  · exact copies2_no4 hb w1 w2 w3 hn h1 h2 h3 h4
  · exact copies2_yes hb w1 w2 w3 hn h1 h2 h3 h4
end Go.Proofs.Ytkeajfedlhgejaa
