/-
  A region that is all 0: a heap without objects; one object put into it.
  Conditions: as each states.
-/
import Derived.Test.YtajkkinolpkfmaaGreatDoorObjSet
namespace Go.Proofs.YtajkkinolpkfmaaGreatDoor
open Go.ChangeShapes Go.WideShapes Go.ChangeAt Go.RowKit
set_option linter.unusedVariables false
set_option linter.unusedSimpArgs false
set_option maxRecDepth 100000

/-- An arena with a region of n words, all 0, at 3. -/
abbrev Ar.bare (n : Nat) : Ar := Ar.laid (List.replicate n 0)
theorem bare_find (n : Nat) : (Ar.bare n).find 3 = some (max 1 n) := by
  unfold Ar.bare Ar.laid
  rw [puts_find, List.length_replicate, laid0_find]
theorem empty_objs (h space : Nat) (h1 : 8 ≤ h) (h2 : h ≤ 2000) (hs : space ≤ 1) : (Ar.bare (2 * h)).objs 3 (h : Int) (space : Int) 0 = some [] := by
  have hl : (Ar.bare (2 * h)).liesB 3 (h : Int) (space : Int) 0 = true := by
    unfold Ar.liesB numsB Ar.inB
    rw [bare_find]
    simp only [Bool.and_eq_true, Bool.not_eq_true', decide_eq_true_eq, decide_eq_false_iff_not]
    omega
  have hs : (Ar.bare (2 * h)).semi 3 (h : Int) (space : Int) 0 = [] := by unfold Ar.semi; simp
  unfold Ar.objs
  rw [if_pos hl, hs]
  rfl

/-- A Block of numbers. -/
def ownO (xs : List Int) : Ob := ⟨1, 0, xs, []⟩
theorem ownO_words (xs : List Int) : (ownO xs).words = 1 + xs.length := rfl
theorem own_may (xs : List Int) (h1 : 1 ≤ xs.length) (h2 : xs.length ≤ 8) : (ownO xs).may = true := by
  unfold Ob.may hasH mayH Ob.size sizeH ownO
  simp
  omega
theorem own_put {A : Ar} {base half space top : Int} {obs : List Ob} (ho : A.objs base half space top = some obs) (xs : List Int) (h1 : 1 ≤ xs.length) (h2 : xs.length ≤ 8) (hr : top + 9 ≤ half) (hodd : ∀ x ∈ xs, x % 2 = 1) : A.putOk base half space top (ownO xs) = true := by
  unfold Ar.putOk
  rw [ho, own_may xs h1 h2]
  simp only [Bool.true_and, Bool.and_eq_true, decide_eq_true_eq, List.all_eq_true]
  refine ⟨fun x hx => ?_, by rw [ownO_words]; omega⟩
  unfold fieldOk wIs
  rw [decide_eq_true (hodd x hx), Bool.or_true]
theorem own_get {A : Ar} {base half top : Int} {o : Ob} (ho : A.objs base half 0 top = some [o]) : A.getOb base half 0 top 0 = some o := by
  unfold Ar.getOb
  rw [ho]
  have : refers (0 * half) [o] 0 = some 0 := by
    unfold refers
    simp [wOk, wAt, objAt]
  simp only [this]
  simp [objAt]
theorem own_places {A : Ar} {base half top : Int} {o : Ob} (ho : A.objs base half 0 top = some [o]) : A.placesI base half 0 top = [0] := by
  unfold Ar.placesI
  rw [ho]
  simp [starts]
end Go.Proofs.YtajkkinolpkfmaaGreatDoor
