/- Texts of this claim, packed: HMeth. -/
import Derived.Test.YtiefgmibgdidpaaGreatDoorPh33
import Derived.Shelf.Abstract
/- A method that is looked up by a pointer to a slice type: one of the slice's own (the slice is loaded), or the pointer's. No conditions but that the cell holds the slice. -/
namespace Go.Proofs.YtiefgmibgdidpaaGreatDoor
open Go.RowKit
set_option linter.unusedVariables false
theorem method_ptr {P : Program} {t elem : TypeId} {f : FuncId} {name : String} {a : Addr} {v : Value} {w : World} {m : Method} {i : TypeInfo} (hi : P.info? t = some i) (hm : i.methods.find? (·.name == name) = some m) (hp : m.path.toList = []) (hf : m.func = some (f, false))
    (hu : P.underlying t = some (.pointer elem)) (hagg : ∀ w, (isAgg elem).run P w = .ok false w) (hc : w.cell? a = some v) (n : Nat) :
    (method (n + 1) t (.pointer (some a)) name).run P w = .ok (f, v) w := by
  have hp' : m.path.isEmpty = true := by
    have : m.path = #[] := by rw [← Array.toList_inj]; exact hp
    rw [this]; rfl
  have ht : ∀ w, (typeInfo t).run P w = .ok i w := fun w => by unfold typeInfo; simp [Sem.run_bind, hi]
  have hs : ∀ (s : String) (w : World), (Builtin.ssaWrapNilChk_ #[t] t #[.pointer (some a), strVal "", strVal s]).run P w = .ok (.pointer (some a)) w := fun s w => rfl
  unfold method
  simp only [Sem.run_bind, ht, Result.andThen_ok, hm, hp, hf, follow, Sem.run_pure, receiverAt, run_underlying hu, Place.get, hp', if_true, hs, asAddr, loadVar, hagg, Bool.false_eq_true, if_false, run_load, hc]
theorem method_own {P : Program} {t elem : TypeId} {f : FuncId} {name : String} {a : Addr} {w : World} {m : Method} {i : TypeInfo} (hi : P.info? t = some i) (hm : i.methods.find? (·.name == name) = some m) (hp : m.path.toList = []) (hf : m.func = some (f, true))
    (hu : P.underlying t = some (.pointer elem)) (n : Nat) :
    (method (n + 1) t (.pointer (some a)) name).run P w = .ok (f, .pointer (some a)) w := by
  have ht : ∀ w, (typeInfo t).run P w = .ok i w := fun w => by unfold typeInfo; simp [Sem.run_bind, hi]
  unfold method
  simp only [Sem.run_bind, ht, Result.andThen_ok, hm, hp, hf, follow, Sem.run_pure, receiverAt, run_underlying hu, Place.get]
theorem und177 : Tryz.prog.underlying 177 = some (.pointer 142) := by kernel_rfl
theorem row_of {t : TypeId} {name : String} {q : List FieldStep × Option (FuncId × Bool)} (h : ((Tryz.prog.info? t).bind fun i => i.methods.find? (·.name == name)).map (fun m => (m.path.toList, m.func)) = some q) : ∃ i m, Tryz.prog.info? t = some i ∧ i.methods.find? (·.name == name) = some m ∧ m.path.toList = q.1 ∧ m.func = q.2 := by
  cases hi : Tryz.prog.info? t with
  | none => rw [hi] at h; simp at h
  | some i =>
    rw [hi] at h
    simp only [Option.bind_some] at h
    cases hm : i.methods.find? (·.name == name) with
    | none => rw [hm] at h; simp at h
    | some m => rw [hm] at h; simp at h; subst h; exact ⟨i, m, rfl, hm, rfl, rfl⟩
theorem fuel_pos : Tryz.prog.types.size + Made.depth = (Tryz.prog.types.size + Made.depth - 1) + 1 := by
  have : 0 < Made.depth := by decide
  omega
theorem mrLen : ((Tryz.prog.info? 177).bind fun i => i.methods.find? (·.name == "Len")).map (fun m => (m.path.toList, m.func)) = some ([], some (182, false)) := by kernel_rfl
theorem mrLess : ((Tryz.prog.info? 177).bind fun i => i.methods.find? (·.name == "Less")).map (fun m => (m.path.toList, m.func)) = some ([], some (183, false)) := by kernel_rfl
theorem mrSwap : ((Tryz.prog.info? 177).bind fun i => i.methods.find? (·.name == "Swap")).map (fun m => (m.path.toList, m.func)) = some ([], some (184, false)) := by kernel_rfl
theorem mrPush : ((Tryz.prog.info? 177).bind fun i => i.methods.find? (·.name == "Push")).map (fun m => (m.path.toList, m.func)) = some ([], some (185, true)) := by kernel_rfl
theorem aggAddrs (w : World) : (isAgg 142).run Tryz.prog w = .ok false w := by kernel_rfl
theorem m_of {f : FuncId} {name : String} (h : ((Tryz.prog.info? 177).bind fun i => i.methods.find? (·.name == name)).map (fun m => (m.path.toList, m.func)) = some ([], some (f, false))) {g : Nat} {v : Value} {w : World} (hc : w.cell? ⟨g, 0, none⟩ = some v) :
    (method (Tryz.prog.types.size + Made.depth) 177 (.pointer (some ⟨g, 0, none⟩)) name).run Tryz.prog w = .ok (f, v) w := by
  obtain ⟨i, m, hi, hm, hp, hf⟩ := row_of h
  rw [fuel_pos]
  exact method_ptr hi hm hp hf und177 aggAddrs hc _
theorem m_own {f : FuncId} {name : String} (h : ((Tryz.prog.info? 177).bind fun i => i.methods.find? (·.name == name)).map (fun m => (m.path.toList, m.func)) = some ([], some (f, true))) (g : Nat) (w : World) :
    (method (Tryz.prog.types.size + Made.depth) 177 (.pointer (some ⟨g, 0, none⟩)) name).run Tryz.prog w = .ok (f, .pointer (some ⟨g, 0, none⟩)) w := by
  obtain ⟨i, m, hi, hm, hp, hf⟩ := row_of h
  rw [fuel_pos]
  exact method_own hi hm hp hf und177 _
end Go.Proofs.YtiefgmibgdidpaaGreatDoor
