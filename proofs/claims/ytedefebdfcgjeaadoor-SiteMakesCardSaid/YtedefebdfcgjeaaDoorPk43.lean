/- Texts of this claim, packed: SiMk. -/
import Derived.Test.YtedefebdfcgjeaaDoorPk39
import Derived.Test.YtedefebdfcgjeaaDoorPk42
import Derived.Test.YtedefebdfcgjeaaDoorPk36
import Derived.Test.YtedefebdfcgjeaaDoorPk06
import Derived.Deep.CutBlock
import Derived.Deep.DeepCutAuto
/- SiteMakes, walked: of which memories, blocks and numbers of clients there is a site. -/
namespace Go.Proofs.YtedefebdfcgjeaaDoor
open Go.RowKit Go.Shelf
set_option linter.unusedVariables false
/-- Why there is none. -/
def newE (size room c : Int) : Int := if size = 0 ∨ slabsN room = 0 then 1 else if c < 1 ∨ 64 < c ∨ size ≠ room then 2 else 0
theorem r13New_any (size room c : Int) (w : World) : Calls Tryd.prog 8 #[.int .i64 size, .int .i64 room, .int .i64 c] w fun e w' => e = .returned (.int .i64 (newE size room c)) ∧ w = w' := by
  have HR := Lib.hid (refSlabs_any room w)
  obtain ⟨S, hS⟩ : ∃ S, S = slabsN room := ⟨_, rfl⟩
  rw [← hS] at HR
  by_cases h0 : size = 0
  · have HE := Lib.hid (show newE size room c = 1 by unfold newE; rw [if_pos (.inl h0)])
    subst h0
    clear hS
    go_enter Tryd.func8, Tryd.ntmps8
    go_wp2_with fail
    go_ret
    exact ⟨by rw [HE.out]; rfl, rfl⟩
  · have d0 : (size == 0) = false := by simpa using h0
    by_cases h1 : S = 0
    · have HE := Lib.hid (show newE size room c = 1 by unfold newE; rw [if_pos (.inr (by rw [← hS]; exact h1))])
      subst h1
      clear hS h0
      go_enter Tryd.func8, Tryd.ntmps8
      go_wp2_with fail
      refine HR.out.mono ?_
      rintro e w' ⟨rfl, rfl⟩
      go_wp2
      go_ret
      exact ⟨by rw [HE.out]; rfl, rfl⟩
    · have d1 : (S == 0) = false := by simpa using h1
      have hor : ¬ (size = 0 ∨ slabsN room = 0) := by rw [← hS]; rintro (h | h); exact h0 h; exact h1 h
      by_cases hc : c < 1 ∨ 64 < c ∨ size ≠ room
      · have HE := Lib.hid (show newE size room c = 2 by unfold newE; rw [if_neg hor, if_pos hc])
        clear hS h0 h1 hor
        by_cases c1 : c < 1
        · clear hc
          go_enter Tryd.func8, Tryd.ntmps8
          go_wp2_with fail
          refine HR.out.mono ?_
          rintro e w' ⟨rfl, rfl⟩
          go_wp2
          go_ret
          exact ⟨by rw [HE.out]; rfl, rfl⟩
        · by_cases c2 : 64 < c
          · clear hc
            go_enter Tryd.func8, Tryd.ntmps8
            go_wp2_with fail
            refine HR.out.mono ?_
            rintro e w' ⟨rfl, rfl⟩
            go_wp2
            go_ret
            exact ⟨by rw [HE.out]; rfl, rfl⟩
          · have hne : size ≠ room := by rcases hc with h | h | h; exact absurd h c1; exact absurd h c2; exact h
            have d2 : (size != room) = true := by simpa using hne
            clear hc hne
            go_enter Tryd.func8, Tryd.ntmps8
            go_wp2_with fail
            refine HR.out.mono ?_
            rintro e w' ⟨rfl, rfl⟩
            go_wp2
            go_ret
            exact ⟨by rw [HE.out]; rfl, rfl⟩
      · have HE := Lib.hid (show newE size room c = 0 by unfold newE; rw [if_neg hor, if_neg hc])
        have c1 : ¬ c < 1 := fun h => hc (.inl h)
        have c2 : ¬ 64 < c := fun h => hc (.inr (.inl h))
        have d2 : (size != room) = false := by
          have : size = room := by
            rcases Classical.em (size = room) with h | h
            · exact h
            · exact absurd (.inr (.inr h)) hc
          simp [this]
        clear hS h0 h1 hor hc
        go_enter Tryd.func8, Tryd.ntmps8
        go_wp2_with fail
        refine HR.out.mono ?_
        rintro e w' ⟨rfl, rfl⟩
        go_wp2
        go_ret
        exact ⟨by rw [HE.out]; rfl, rfl⟩
theorem SizeIs.below {w w' : World} {p : Option Addr} {Z : Int} (h : SizeIs w p Z) (hb : Below w.heap.size w w') : SizeIs w' p Z := fun W hW => h W (Below.and hb hW)
theorem SlabsIs.below {w w' : World} {p : Option Addr} {n : Nat} (h : SlabsIs w p n) (hb : Below w.heap.size w w') : SlabsIs w' p n := fun W hW => h W (Below.and hb hW)
end Go.Proofs.YtedefebdfcgjeaaDoor
