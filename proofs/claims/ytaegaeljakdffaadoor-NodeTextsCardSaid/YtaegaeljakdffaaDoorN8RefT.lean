/- The document's Text of a node: its words, one behind the other; conditions: its level is not below 0, its numbers are such as it can have. -/
import Derived.Test.YtaegaeljakdffaaDoorN8Num
import Derived.Test.YtaegaeljakdffaaDoorN8Text
import Derived.Test.YtaegaeljakdffaaDoorN8RefP
import Derived.Test.YtaegaeljakdffaaDoorQLoad
namespace Go.Proofs.YtaegaeljakdffaaDoor
open Go.RowKit
set_option linter.unusedVariables false
theorem dec_mostT : ∀ (k u : Nat), u < 10 ^ (k + 1) → (Lib.decDigits u).length ≤ k + 1
  | 0, u, h => by rw [Lib.decDigits, dif_pos (by simpa using h)]; simp
  | k + 1, u, h => by
    rw [Lib.decDigits]
    split
    · simp
    · have := dec_mostT k (u / 10) (by rw [Nat.pow_succ] at h; omega)
      rw [List.length_append, List.length_singleton]
      omega
theorem ten20T : (10 : Nat) ^ (19 + 1) = 100000000000000000000 := by decide
theorem numS_lenT {u : Nat} (h : u < 18446744073709551616) : (numS u).size ≤ 20 := dec_mostT 19 u (by rw [ten20T]; omega)
def sp1 : ByteArray := ⟨#[32]⟩
def eq1 : ByteArray := ⟨#[61]⟩
def hdB (n : Nd) : ByteArray := numS n.l.toNat ++ sp1 ++ numS n.lo.toNat ++ sp1 ++ numS n.nx.toNat ++ sp1 ++ numS n.fi.toNat
def txB (n : Nd) (l : List (Int × Int)) : Nat → ByteArray
  | 0 => hdB n
  | k + 1 => txB n l k ++ sp1 ++ numS (l.getD k (0, 0)).1.toNat ++ eq1 ++ numS (l.getD k (0, 0)).2.toNat
theorem tx_list (n : Nd) (l : List (Int × Int)) : ∀ k, k ≤ l.length → (txB n l k).data.toList = (hdB n).data.toList ++ ((l.take k).map fun e => 32 :: ((numS e.1.toNat).data.toList ++ 61 :: (numS e.2.toNat).data.toList)).flatten
  | 0, _ => by simp [txB]
  | k + 1, h => by
    have ih := tx_list n l k (by omega)
    have hk : l[k]? = some (l.getD k (0, 0)) := by rw [List.getD_eq_getElem?_getD, List.getElem?_eq_getElem (by omega)]; rfl
    rw [List.take_add_one, hk, txB]
    simp only [ByteArray.data_append, Array.toList_append, ih, Option.toList_some, List.map_append, List.map_cons, List.map_nil, List.flatten_append, List.flatten_cons, List.flatten_nil, List.append_nil]
    simp [sp1, eq1]
theorem tx_join (n : Nd) : txB n n.es n.es.length = ⟨(Lib.join ((txtL n n.vp).map (·.data.toList)) [32]).toArray⟩ := by
  apply ByteArray.ext
  rw [← Array.toList_inj, tx_list n n.es _ (Nat.le_refl _), List.take_length]
  unfold txtL
  simp only [List.cons_append, List.nil_append, List.map_cons, Lib.join_cons, Lib.joinTail]
  unfold hdB Nd.es Nd.ent entB
  simp only [ByteArray.data_append, Array.toList_append, List.flatten_cons, List.map_map, List.append_assoc]
  simp [sp1, decB, numS, Function.comp_def]
end Go.Proofs.YtaegaeljakdffaaDoor
