/- partialInsertionSortOrdered: it computes what the library's plain function says. -/
import Derived.Test.YtpdnbojooelmfaaSrtA
import Derived.Deep.DeepCutAuto
import Derived.Deep.CutBlock
namespace Go.Proofs.Ytpdnbojooelmfaa
open Go.RowKit
set_option linter.unusedVariables false
theorem scS_go {b i : Nat} {d : Array Nat} (h : i < b) (hl : ¬ d[i]! < d[i - 1]!) : Sort.scanSorted ltN d b i = Sort.scanSorted ltN d b (i + 1) := by
  rw [Sort.scanSorted, if_pos]
  simp [ltN, h, hl]
theorem scS_stop {b i : Nat} {d : Array Nat} (h : ¬ i < b ∨ d[i]! < d[i - 1]!) : Sort.scanSorted ltN d b i = i := by
  rw [Sort.scanSorted, if_neg]
  rcases h with h | h
  · simp [h]
  · simp [ltN, h]
theorem shD_go {j : Nat} {d : Array Nat} (hj : 1 ≤ j) (hl : d[j]! < d[j - 1]!) : Sort.shiftDown ltN j d = Sort.shiftDown ltN (j - 1) (Sort.swp d j (j - 1)) := by
  obtain ⟨k, rfl⟩ : ∃ k, j = k + 1 := ⟨j - 1, by omega⟩
  simp only [Nat.add_sub_cancel] at hl ⊢
  rw [Sort.shiftDown, if_neg (by simp [ltN, hl])]
theorem shD_stop {j : Nat} {d : Array Nat} (h : j = 0 ∨ ¬ d[j]! < d[j - 1]!) : Sort.shiftDown ltN j d = d := by
  cases j with
  | zero => rfl
  | succ k =>
    rw [Sort.shiftDown, if_pos]
    rcases h with h | h
    · omega
    · simp only [Nat.add_sub_cancel] at h
      simp [ltN, h]
theorem shU_go {b j : Nat} {d : Array Nat} (hj : j < b) (hl : d[j]! < d[j - 1]!) : Sort.shiftUp ltN b j d = Sort.shiftUp ltN b (j + 1) (Sort.swp d j (j - 1)) := by
  rw [Sort.shiftUp, if_pos hj, if_neg (by simp [ltN, hl])]
theorem shU_stop {b j : Nat} {d : Array Nat} (h : ¬ j < b ∨ ¬ d[j]! < d[j - 1]!) : Sort.shiftUp ltN b j d = d := by
  rw [Sort.shiftUp]
  split
  · rw [if_pos]
    rcases h with h | h
    · omega
    · simp [ltN, h]
  · rfl
theorem nat_neq {n m : Nat} (h : n ≠ m) : ((n : Int) == (m : Int)) = false := by
  rw [Bool.eq_false_iff]
  intro hh
  have := beq_iff_eq.1 hh
  omega
def PiInv (w0 : World) (h off z n a b : Nat) (r : Array Nat × Bool) (k : Nat) (s7 s8 : Value) (wr : World) : Prop := ∃ (i : Nat) (d : Array Nat), s7 = .int .i64 (i : Int) ∧ s8 = .int .i64 (5 - (k : Int)) ∧ k ≤ 5 ∧ a < i ∧ i ≤ b ∧ SwA w0 wr h off z n d ∧ Sort.partialIns ltN a b k i d = r
def PiEnd (w0 : World) (h off z n : Nat) (r : Array Nat × Bool) (e : Ending) (w' : World) : Prop := e = .returned (.bool r.2) ∧ SwA w0 w' h off z n r.1
def PiCut1 (w0 : World) (h off z n a b i : Nat) (d : Array Nat) (s7 : Value) (wr : World) : Prop := ∃ i1 : Nat, s7 = .int .i64 (i1 : Int) ∧ a < i1 ∧ i1 ≤ b ∧ SwA w0 wr h off z n d ∧ Sort.scanSorted ltN d b i = i1
def ScInv (w0 : World) (h off z n a b i : Nat) (d : Array Nat) (k : Nat) (s7 : Value) (wr : World) : Prop := ∃ i1 : Nat, s7 = .int .i64 (i1 : Int) ∧ a < i1 ∧ i1 ≤ b ∧ b - i1 ≤ k ∧ SwA w0 wr h off z n d ∧ Sort.scanSorted ltN d b i = Sort.scanSorted ltN d b i1
def ShDInv (w0 : World) (h off z n : Nat) (r : Array Nat) (m : Nat) (s9 : Value) (wr : World) : Prop := ∃ (j : Nat) (d : Array Nat), s9 = .int .i64 (j : Int) ∧ j < n ∧ j ≤ m ∧ SwA w0 wr h off z n d ∧ Sort.shiftDown ltN j d = r
def ShUInv (w0 : World) (h off z n b : Nat) (r : Array Nat) (m : Nat) (s10 : Value) (wr : World) : Prop := ∃ (j : Nat) (d : Array Nat), s10 = .int .i64 (j : Int) ∧ 1 ≤ j ∧ j ≤ b ∧ b - j ≤ m ∧ SwA w0 wr h off z n d ∧ Sort.shiftUp ltN b j d = r
set_option maxRecDepth 100000 in
set_option maxHeartbeats 8000000 in
theorem partialIns_any {w : World} {h off z cap n : Nat} {d : Array Nat} (hA : SwA w w h off z n d) (hn : n ≤ 1000000000) {a b : Nat} (hab : a < b) (hb : b ≤ n) :
    Calls Try.prog 47 #[.slice (some ⟨h, off, none⟩) n cap, .int .i64 (a : Int), .int .i64 (b : Int)] w (PiEnd w h off z n (Sort.partialInsertionSort ltN d a b)) := by
  obtain ⟨H, hH⟩ : ∃ H, H = b - a := ⟨_, rfl⟩
  have hl : (b : Int) - (a : Int) = (H : Int) := by omega
  have H0 := Lib.hid hA
  obtain ⟨r, hd⟩ : ∃ r, r = Sort.partialInsertionSort ltN d a b := ⟨_, rfl⟩
  rw [← hd]
  have HD := Lib.hid hd
  clear hA hd
  have hH1 : H ≤ b - a := by omega
  have hH2 : b - a ≤ H := by omega
  clear hH
  go_enter Try.func47, Try.ntmps47
  go_wp2
  go_loopg [7, 8] 5 (fun k s7 s8 wr => PiInv w h off z n a b r k s7 s8 wr)
  case atStart => exact ⟨a + 1, d, by go_num, rfl, by omega, by omega, by omega, H0.out, HD.out.symm⟩
  case round =>
    obtain ⟨i, dk, rfl, hs8, hk, hai, hib, hS, hU⟩ := hrel
    have HS := Lib.hid hS
    have HU := Lib.hid hU
    clear hS hU
    cases gk with
    | zero =>
      rw [show (5 : Int) - ((0 : Nat) : Int) = 5 from rfl] at hs8
      subst hs8
      have HE : Hid (PiEnd w h off z n r (.returned (.bool false)) wr) := Lib.hid (by rw [← HU.out]; exact ⟨rfl, HS.out⟩)
      go_wp2
      go_ret
      exact HE.out
    | succ s =>
      obtain ⟨c, hc⟩ : ∃ c : Nat, c = 4 - s := ⟨_, rfl⟩
      rw [show (5 : Int) - ((s + 1 : Nat) : Int) = (c : Int) from by omega] at hs8
      subst hs8
      have c5 : (c : Int) < 5 := by omega
      have hc1 : c + s ≤ 4 := by omega
      have hc2 : 4 ≤ c + s := by omega
      clear hc
      go_upto_block 2 with (fail)
      go_cut [7] (fun s7 wx => PiCut1 w h off z n a b i dk s7 wx)
      case first =>
        go_wp2_with fail
        go_loopg [7] (b - i) (fun k s7 wr => ScInv w h off z n a b i dk k s7 wr)
        case atStart => exact ⟨i, rfl, hai, hib, Nat.le_refl _, HS.out, rfl⟩
        case round =>
          obtain ⟨i1, rfl, hai1, hib1, hk1, hS1, hU1⟩ := hrel
          have HS1 := Lib.hid hS1
          have HU1 := Lib.hid hU1
          clear hS1 hU1
          have HEX : Hid (∀ q, Sort.scanSorted ltN dk b i1 = i1 → PiCut1 w h off z n a b i dk (.int .i64 (i1 : Int)) (wr.drewN q)) := Lib.hid (fun q e => ⟨i1, rfl, hai1, hib1, HS1.out.drew ⟨q, rfl⟩, by rw [HU1.out, e]⟩)
          by_cases hlt : i1 < b
          · have ci := HS1.out.cell (i := i1) (by omega)
            have ck := HS1.out.cell (i := i1 - 1) (by omega)
            by_cases hc : dk[i1]! < dk[i1 - 1]!
            · have hcc : decide (dk[i1]! < dk[i1 - 1]!) = true := decide_eq_true hc
              have HSt := Lib.hid (scS_stop (b := b) (Or.inr hc))
              generalize dk[i1]! = x at *
              generalize dk[i1 - 1]! = y at *
              go_wp2
              go_quiet ((go_at_call 48; exact Calls.quiet_of_same (cmpLess_any _ _ _)))
              have HF := Lib.hid (HEX.out nq HSt.out)
              go_wp2_with fail
              go_meet
              exact HF.out
            · have hcc : decide (dk[i1]! < dk[i1 - 1]!) = false := decide_eq_false hc
              have HGo := Lib.hid (scS_go hlt hc)
              have HNX : Hid (∀ q, ScInv w h off z n a b i dk (b - (i1 + 1)) (.int .i64 ((i1 : Int) + 1)) (wr.drewN q)) := Lib.hid (fun q => ⟨i1 + 1, by go_num, by omega, by omega, Nat.le_refl _, HS1.out.drew ⟨q, rfl⟩, by rw [HU1.out, HGo.out]⟩)
              generalize dk[i1]! = x at *
              generalize dk[i1 - 1]! = y at *
              go_wp2
              go_quiet ((go_at_call 48; exact Calls.quiet_of_same (cmpLess_any _ _ _)))
              have HF := Lib.hid (HNX.out nq)
              go_wp2
              go_roundg (b - (i1 + 1))
              case measure => omega
              case rel => exact HF.out
          · have hg : decide ((i1 : Int) < (b : Int)) = false := by simp; omega
            have HSt := Lib.hid (scS_stop (b := b) (d := dk) (Or.inl hlt))
            go_wp2
            go_quiet (fail)
            have HF := Lib.hid (HEX.out nq HSt.out)
            go_wp2_with fail
            go_meet
            exact HF.out
      case rest =>
        obtain ⟨k, rfl, hak, hkb, hS1, hsc⟩ := hcut
        have HS1 := Lib.hid hS1
        have HSC := Lib.hid hsc
        clear hS1 hsc
        have HPS := Lib.hid (Sort.partialIns_succ (lt := ltN) a b s i dk)
        by_cases hkb' : k = b
        · subst hkb'
          have HE : Hid (PiEnd w h off z n r (.returned (.bool true)) wc) := Lib.hid (by
            rw [← HU.out, HPS.out, HSC.out, if_pos rfl]
            exact ⟨rfl, HS1.out⟩)
          go_wp2
          go_ret
          exact HE.out
        · have hkbn : ((k : Int) == (b : Int)) = false := nat_neq hkb'
          by_cases h50 : b - a < 50
          · have h50z : decide ((H : Int) < 50) = true := by simp; omega
            have HE : Hid (PiEnd w h off z n r (.returned (.bool false)) wc) := Lib.hid (by
              rw [← HU.out, HPS.out, HSC.out, if_neg hkb', if_pos h50]
              exact ⟨rfl, HS1.out⟩)
            go_wp2
            go_ret
            exact HE.out
          · have h50z : decide ((H : Int) < 50) = false := by simp; omega
            have hkn : k < n := by omega
            have hk1n : k - 1 < n := by omega
            have ck := HS1.out.cell hkn
            have ck1 := HS1.out.cell hk1n
            have fk := HS1.out.free k
            have fk1 := HS1.out.free (k - 1)
            have HSW : Hid (∀ W, (∃ q, W = (((wc.setCell ⟨h, off + k, none⟩ (.int .u64 (dk[k - 1]! : Int))).setCell ⟨h, off + (k - 1), none⟩ (.int .u64 (dk[k]! : Int))).drewN q)) → SwA w W h off z n (Sort.swp dk k (k - 1))) := Lib.hid (fun W hW => HS1.out.swp2 hkn hk1n hW)
            generalize dk[k]! = x at *
            generalize dk[k - 1]! = y at *
            obtain ⟨v', hy'⟩ := cell?_setCell_some (w := wc) (p := ⟨h, off + k, none⟩) (x := .int .u64 (y : Int)) (q := ⟨h, off + (k - 1), none⟩) ck1
            go_wp2
            go_region
            have HS2 : Hid (SwA w (((wc.setCell ⟨h, off + k, none⟩ (.int .u64 (y : Int))).setCell ⟨h, off + (k - 1), none⟩ (.int .u64 (x : Int))).drew) h off z n (Sort.swp dk k (k - 1))) := Lib.hid (HSW.out _ ⟨1, rfl⟩)
            go_upto_if 61 with (fail)
            generalize (((wc.setCell ⟨h, off + k, none⟩ (.int .u64 (y : Int))).setCell ⟨h, off + (k - 1), none⟩ (.int .u64 (x : Int))).drew) = w2 at HS2 ⊢
            obtain ⟨d1, hd1⟩ : ∃ d1, d1 = Sort.swp dk k (k - 1) := ⟨_, rfl⟩
            rw [← hd1] at HS2
            have HD1 := Lib.hid hd1
            clear ck ck1 fk fk1 hy' hd1 HSW
            go_cut [9] (fun s9 wx => SwA w wx h off z n (Sort.fixDown ltN a k d1))
            case first =>
              by_cases h2 : 2 ≤ k - a
              · have h2z : decide (2 ≤ (k : Int) - (a : Int)) = true := by simp; omega
                obtain ⟨d2, hd2⟩ : ∃ d2, d2 = Sort.shiftDown ltN (k - 1) d1 := ⟨_, rfl⟩
                have HFD : Hid (Sort.fixDown ltN a k d1 = d2) := Lib.hid (by rw [hd2]; exact if_pos h2)
                have HD2 := Lib.hid hd2
                have HK1 := Lib.hid (show (k : Int) - 1 = ((k - 1 : Nat) : Int) from by omega)
                clear hd2
                go_wp2_with fail
                go_loopg [9] (k - 1) (fun m s9 wr => ShDInv w h off z n d2 m s9 wr)
                case atStart => exact ⟨k - 1, d1, by rw [HK1.out], by omega, by omega, HS2.out, HD2.out.symm⟩
                case round =>
                  obtain ⟨j, dj, rfl, hjn, hjm, hSj, hUj⟩ := hrel
                  have HSj := Lib.hid hSj
                  have HUj := Lib.hid hUj
                  clear hSj hUj
                  by_cases hj : 1 ≤ j
                  · have hj' : decide (1 ≤ (j : Int)) = true := by simp; omega
                    have cj := HSj.out.cell hjn
                    have ck := HSj.out.cell (i := j - 1) (by omega)
                    have fj := HSj.out.free j
                    have fk := HSj.out.free (j - 1)
                    have HJ1 := Lib.hid (show (j : Int) - 1 = ((j - 1 : Nat) : Int) from by omega)
                    have HSW : Hid (∀ q, SwA w (((wr.drewN q).setCell ⟨h, off + j, none⟩ (.int .u64 (dj[j - 1]! : Int))).setCell ⟨h, off + (j - 1), none⟩ (.int .u64 (dj[j]! : Int))) h off z n (Sort.swp dj j (j - 1))) := Lib.hid (fun q => (HSj.out.drew ⟨q, rfl⟩).swp2 hjn (by omega) ⟨0, rfl⟩)
                    by_cases hc : dj[j]! < dj[j - 1]!
                    · have HR := Lib.hid (shD_go hj hc)
                      have hcc : decide (dj[j]! < dj[j - 1]!) = true := decide_eq_true hc
                      generalize dj[j]! = x at *
                      generalize dj[j - 1]! = y at *
                      obtain ⟨v', hy'⟩ := cell?_setCell_some (w := wr) (p := ⟨h, off + j, none⟩) (x := .int .u64 (y : Int)) (q := ⟨h, off + (j - 1), none⟩) ck
                      go_wp2
                      go_quiet ((go_at_call 48; exact Calls.quiet_of_same (cmpLess_any _ _ _)))
                      go_wp2
                      go_region
                      all_goals (try go_wp2)
                      all_goals go_roundg (j - 1)
                      case measure => omega
                      case rel => exact ⟨j - 1, _, by rw [HJ1.out], by omega, Nat.le_refl _, HSW.out _, by rw [← HR.out, HUj.out]⟩
                    · have hcc : decide (dj[j]! < dj[j - 1]!) = false := decide_eq_false hc
                      have HR := Lib.hid (shD_stop (Or.inr hc))
                      generalize dj[j]! = x at *
                      generalize dj[j - 1]! = y at *
                      go_wp2
                      go_quiet ((go_at_call 48; exact Calls.quiet_of_same (cmpLess_any _ _ _)))
                      have HF : Hid (SwA w (wr.drewN nq) h off z n (Sort.fixDown ltN a k d1)) := Lib.hid (by rw [HFD.out, ← HUj.out, HR.out]; exact HSj.out.drew ⟨nq, rfl⟩)
                      go_wp2_with fail
                      go_meet
                      exact HF.out
                  · have hj' : decide (1 ≤ (j : Int)) = false := by simp; omega
                    have HF : Hid (SwA w wr h off z n (Sort.fixDown ltN a k d1)) := Lib.hid (by rw [HFD.out, ← HUj.out, shD_stop (Or.inl (by omega))]; exact HSj.out)
                    go_wp2_with fail
                    go_meet
                    exact HF.out
              · have h2z : decide (2 ≤ (k : Int) - (a : Int)) = false := by simp; omega
                have HF : Hid (SwA w w2 h off z n (Sort.fixDown ltN a k d1)) := Lib.hid (by unfold Sort.fixDown; rw [if_neg h2]; exact HS2.out)
                go_wp2_with fail
                go_meet
                exact HF.out
            case rest =>
              have HS3 := Lib.hid hcut
              clear hcut
              obtain ⟨d2, hd2⟩ : ∃ d2, d2 = Sort.fixDown ltN a k d1 := ⟨_, rfl⟩
              rw [← hd2] at HS3
              have HD2 := Lib.hid hd2
              clear hd2
              have hs5 : (c : Int) + 1 = 5 - (s : Int) := by omega
              have HFIN : Hid (∀ W, SwA w W h off z n (Sort.fixUp ltN b k d2) → PiInv w h off z n a b r s (.int .i64 (k : Int)) (.int .i64 ((c : Int) + 1)) W) := Lib.hid (fun W hW => ⟨k, _, rfl, by rw [hs5], by omega, hak, hkb, hW, by rw [← HU.out, HPS.out, HSC.out, if_neg hkb', if_neg h50, HD2.out, HD1.out]⟩)
              clear hs5
              rename World => w3
              by_cases h2 : 2 ≤ b - k
              · have h2z : decide (2 ≤ (b : Int) - (k : Int)) = true := by simp; omega
                obtain ⟨d3, hd3⟩ : ∃ d3, d3 = Sort.shiftUp ltN b (k + 1) d2 := ⟨_, rfl⟩
                have HFD : Hid (Sort.fixUp ltN b k d2 = d3) := Lib.hid (by rw [hd3]; exact if_pos h2)
                have HD3 := Lib.hid hd3
                clear hd3
                go_wp2_with fail
                go_loopg [10] (b - (k + 1)) (fun m s10 wr => ShUInv w h off z n b d3 m s10 wr)
                case atStart => exact ⟨k + 1, d2, by go_num, by omega, by omega, Nat.le_refl _, HS3.out, HD3.out.symm⟩
                case round =>
                  obtain ⟨j, dj, rfl, hj1, hjb, hjm, hSj, hUj⟩ := hrel
                  have HSj := Lib.hid hSj
                  have HUj := Lib.hid hUj
                  clear hSj hUj
                  by_cases hj : j < b
                  · have hj' : decide ((j : Int) < (b : Int)) = true := by simp; omega
                    have hjn : j < n := by omega
                    have cj := HSj.out.cell hjn
                    have ck := HSj.out.cell (i := j - 1) (by omega)
                    have fj := HSj.out.free j
                    have fk := HSj.out.free (j - 1)
                    have HSW : Hid (∀ q, SwA w (((wr.drewN q).setCell ⟨h, off + j, none⟩ (.int .u64 (dj[j - 1]! : Int))).setCell ⟨h, off + (j - 1), none⟩ (.int .u64 (dj[j]! : Int))) h off z n (Sort.swp dj j (j - 1))) := Lib.hid (fun q => (HSj.out.drew ⟨q, rfl⟩).swp2 hjn (by omega) ⟨0, rfl⟩)
                    by_cases hc : dj[j]! < dj[j - 1]!
                    · have HR := Lib.hid (shU_go hj hc)
                      have hcc : decide (dj[j]! < dj[j - 1]!) = true := decide_eq_true hc
                      generalize dj[j]! = x at *
                      generalize dj[j - 1]! = y at *
                      obtain ⟨v', hy'⟩ := cell?_setCell_some (w := wr) (p := ⟨h, off + j, none⟩) (x := .int .u64 (y : Int)) (q := ⟨h, off + (j - 1), none⟩) ck
                      go_wp2
                      go_quiet ((go_at_call 48; exact Calls.quiet_of_same (cmpLess_any _ _ _)))
                      go_wp2
                      go_region
                      all_goals (try go_wp2)
                      all_goals go_roundg (b - (j + 1))
                      case measure => omega
                      case rel => exact ⟨j + 1, _, by go_num, by omega, by omega, Nat.le_refl _, HSW.out _, by rw [← HR.out, HUj.out]⟩
                    · have hcc : decide (dj[j]! < dj[j - 1]!) = false := decide_eq_false hc
                      have HR := Lib.hid (shU_stop (b := b) (Or.inr hc))
                      generalize dj[j]! = x at *
                      generalize dj[j - 1]! = y at *
                      go_wp2
                      go_quiet ((go_at_call 48; exact Calls.quiet_of_same (cmpLess_any _ _ _)))
                      have HF : Hid (SwA w (wr.drewN nq) h off z n (Sort.fixUp ltN b k d2)) := Lib.hid (by rw [HFD.out, ← HUj.out, HR.out]; exact HSj.out.drew ⟨nq, rfl⟩)
                      have HP := Lib.hid (HFIN.out _ HF.out)
                      go_wp2
                      go_roundg s
                      case measure => omega
                      case rel => exact HP.out
                  · have hj' : decide ((j : Int) < (b : Int)) = false := by simp; omega
                    have HF : Hid (SwA w wr h off z n (Sort.fixUp ltN b k d2)) := Lib.hid (by rw [HFD.out, ← HUj.out, shU_stop (Or.inl hj)]; exact HSj.out)
                    have HP := Lib.hid (HFIN.out _ HF.out)
                    go_wp2
                    go_roundg s
                    case measure => omega
                    case rel => exact HP.out
              · have h2z : decide (2 ≤ (b : Int) - (k : Int)) = false := by simp; omega
                have HF : Hid (SwA w w3 h off z n (Sort.fixUp ltN b k d2)) := Lib.hid (by unfold Sort.fixUp; rw [if_neg h2]; exact HS3.out)
                have HP := Lib.hid (HFIN.out _ HF.out)
                go_wp2
                go_roundg s
                case measure => omega
                case rel => exact HP.out
end Go.Proofs.Ytpdnbojooelmfaa
