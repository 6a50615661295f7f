/- Texts of this claim, packed: PConv. -/
import Derived.Test.YtkbklooocdfcfaaGreatDoorPz05
import Derived.Lib.BufferRead
import Derived.Lib.SlBytesRow
set_option linter.unusedVariables false
set_option maxRecDepth 100000
set_option maxHeartbeats 6400000
namespace Go.Proofs.YtkbklooocdfcfaaGreatDoor
open Go.RowKit
def strOf (l : List Nat) : ByteArray := ⟨(l.map UInt8.ofNat).toArray⟩
theorem push_fold : ∀ (ns : List Int) (r : ByteArray), ns.foldl (fun r n => r.push (UInt8.ofNat n.toNat)) r = ⟨(r.data.toList ++ ns.map fun n => UInt8.ofNat n.toNat).toArray⟩
 | [], r => by
  simp
 | n :: t, r => by
  rw [List.foldl_cons, push_fold t]
  congr 2
  show (r.data.push (UInt8.ofNat n.toNat)).toList ++ _ = _
  simp
theorem conv_sl {w : World} {a : Addr} {l : List Nat} (n c : Nat) (hn : l.length = n) (hs : Sl w (some a) (l.map bv)) : (convert 42 9 (.slice (some a) n c)).run Tryz.prog w = .ok (.string (strOf l)) w := by
 have e1 : ((l.map fun b : Nat => (b : Int)).map (Value.int .u8)) = l.map bv := by
  rw [List.map_map]
  rfl
 have h := run_loadCells_list (P := Tryz.prog) w a (l.map bv) (fun j v hv => by
  obtain ⟨a', e, hc⟩ := hs j v hv
  cases e
  exact hc)
 rw [List.length_map, hn, <- e1] at h
 rw [run_convert_bytes_string w 42 9 5 (some a) n c Tryz.underlying42 Tryz.underlying5 Tryz.underlying9, run_bytesToString w a n c _ h, push_fold]
 congr 3
 show (([] : List UInt8) ++ _).toArray = _
 rw [List.nil_append, List.map_map]
 rfl
end Go.Proofs.YtkbklooocdfcfaaGreatDoor
