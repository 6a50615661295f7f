/- Texts of this claim, packed: PConv. -/
import Derived.Test.YtkeajfedlhgejaaPc01
import Derived.Lib.BufferRead
import Derived.Lib.SlBytesRow
/- The text of bytes that a slice reads as; without conditions. -/
namespace Go.Proofs.Ytkeajfedlhgejaa
open Go.RowKit
set_option linter.unusedVariables false
def strOf (l : List Nat) : ByteArray := ⟨(l.map UInt8.ofNat).toArray⟩
theorem strOf_size (l : List Nat) : (strOf l).size = l.length := by
  show (l.map UInt8.ofNat).toArray.size = _
  simp
theorem push_fold : ∀ (ns : List Int) (r : ByteArray), ns.foldl (fun r n => r.push (UInt8.ofNat n.toNat)) r = ⟨(r.data.toList ++ ns.map fun n => UInt8.ofNat n.toNat).toArray⟩
  | [], r => by
    simp
  | n :: t, r => by
    rw [List.foldl_cons, push_fold t]
    congr 2
    show (r.data.push (UInt8.ofNat n.toNat)).toList ++ _ = _
    simp
theorem conv_sl {w : World} {a : Addr} {l : List Nat} (n c : Nat) (hn : l.length = n) (hs : Sl w (some a) (l.map bv)) : (convert 22 9 (.slice (some a) n c)).run Try.prog w = .ok (.string (strOf l)) w := by
  have e1 : ((l.map fun b : Nat => (b : Int)).map (Value.int .u8)) = l.map bv := by
    rw [List.map_map]
    rfl
  have h := run_loadCells_list (P := Try.prog) w a (l.map bv) (fun j v hv => by
    obtain ⟨a', e, hc⟩ := hs j v hv
    cases e
    exact hc)
  rw [List.length_map, hn, ← e1] at h
  rw [run_convert_bytes_string w 22 9 5 (some a) n c Try.underlying22 Try.underlying5 Try.underlying9, run_bytesToString w a n c _ h, push_fold]
  congr 3
  show (([] : List UInt8) ++ _).toArray = _
  rw [List.nil_append, List.map_map]
  rfl
theorem conv_nil (w : World) (c : Nat) : (convert 22 9 (.slice none 0 c)).run Try.prog w = .ok (.string (strOf [])) w := Lib.run_convert_nil_bytes w 22 9 5 c Try.underlying22 Try.underlying5 Try.underlying9
theorem conv_any {w : World} {A : Option Addr} {l : List Nat} (n c : Nat) (hn : l.length = n) (hs : Sl w A (l.map bv)) (h0 : A = none → n = 0) : (convert 22 9 (.slice A n c)).run Try.prog w = .ok (.string (strOf l)) w := by
  rcases A with _ | a
  · have := h0 rfl
    subst this
    obtain rfl : l = [] := List.eq_nil_of_length_eq_zero hn
    exact conv_nil w c
  · exact conv_sl n c hn hs
/-- Two texts of bytes are the same just if the bytes are. -/
theorem strOf_inj {l m : List Nat} (hl : ∀ b ∈ l, b < 256) (hm : ∀ b ∈ m, b < 256) (h : strOf l = strOf m) : l = m := by
  have h1 : (l.map UInt8.ofNat) = m.map UInt8.ofNat := by
    have := congrArg (fun s : ByteArray => s.data.toList) h
    simpa [strOf] using this
  have h2 := congrArg (List.map UInt8.toNat) h1
  rw [List.map_map, List.map_map] at h2
  have e : ∀ x : List Nat, (∀ b ∈ x, b < 256) → x.map (UInt8.toNat ∘ UInt8.ofNat) = x := by
    intro x hx
    conv => rhs; rw [← List.map_id x]
    apply List.map_congr_left
    intro b hb
    have := hx b hb
    simp
    omega
  rwa [e l hl, e m hm] at h2
end Go.Proofs.Ytkeajfedlhgejaa
