/-
  Which object stands first in a row of words ('whole'), all ways together.
  Conditions: as each states.
-/
import Derived.Test.YtnjpjhlodamanaaObG
namespace Go.Proofs.Ytnjpjhlodamanaa
open Go.ChangeShapes Go.WideShapes Go.ChangeAt Go.RowKit
set_option linter.unusedVariables false
set_option linter.unusedSimpArgs false
set_option maxRecDepth 100000

/-- What 'whole' tells of words. -/
def wholeV (ws : List Int) : Value := match decode ws with
  | some o => .tuple #[.int .i64 (o.words : Int), .bool true]
  | none => .tuple #[.int .i64 0, .bool false]

theorem mkOb_words {k t : Int} {body : List Int} {s : Nat} (h : body.length = longH k s) : (mkOb k t body s).words = 1 + longH k s := by
  unfold mkOb Ob.words Ob.long Ob.size sizeH
  by_cases hk : k = 2
  · subst hk
    simp [length_unpack, longH]
  · simp only [hk, if_false] at h ⊢
    rw [h]
    simp [longH, hk]

theorem whole_any (x : Int) (r : List Int) (hf : ∀ y ∈ x :: r, fitW y) (hl : r.length ≤ 2000) (b o c : Nat) (hc : r.length + 1 ≤ c) (w : World) (hr : ∀ j u, ((x :: r).map (Value.int .u64))[j]? = some u → w.cell? ⟨b, o + j, none⟩ = some u) :
    Calls Try.prog 47 #[.slice (some ⟨b, o, none⟩) (r.length + 1) c] w fun e w' => e = .returned (wholeV (x :: r)) ∧ Below w.heap.size w w' := by
  have hx := hf x (by simp)
  have h0 : w.cell? ⟨b, o, none⟩ = some (.int .u64 x) := hr 0 _ rfl
  by_cases hm : mayH (hK x) (hT x) (hS x) = true
  · have hbd := mayH_bounds hm
    by_cases hlo : longH (hK x) (hS x) ≤ r.length
    · have hbl : (r.take (longH (hK x) (hS x))).length = longH (hK x) (hS x) := by rw [List.length_take]; omega
      have hfx : ∀ y ∈ r.take (longH (hK x) (hS x)), fitW y := fun y hy => hf y (List.mem_cons_of_mem _ (List.mem_of_mem_take hy))
      have hrd : ∀ j u, ((r.take (longH (hK x) (hS x))).map (Value.int .u64))[j]? = some u → w.cell? ⟨b, o + 1 + j, none⟩ = some u := fun j u hu => by
        have h1 := hr (j + 1) u (by
          rw [List.map_cons, List.getElem?_cons_succ]
          rw [List.map_take, List.getElem?_take] at hu
          split at hu
          · exact hu
          · cases hu)
        rwa [show o + (j + 1) = o + 1 + j by omega] at h1
      have hw := mkOb_words (t := hT x) hbl
      cases hs : soundH (hK x) (r.take (longH (hK x) (hS x))) (hS x) with
      | true =>
        have e : wholeV (x :: r) = .tuple #[.int .i64 ((1 + longH (hK x) (hS x) : Nat) : Int), .bool true] := by
          have hd : decodeOk x r = true := by simp [decodeOk, hm, hlo, hs]
          simp only [wholeV, decode, hd, if_true, hw]
        rw [e]
        by_cases hk2 : hK x = 2
        · exact whole_s x hx b o (r.length + 1) c hm (by omega) (by omega) hc hk2 w _ hbl hfx hs hrd h0
        · exact whole_f x hx b o (r.length + 1) c hm (by omega) (by omega) hc hk2 w h0
      | false =>
        have hk2 : hK x = 2 := by
          by_cases h : hK x = 2
          · exact h
          · simp [soundH, h] at hs
        have e : wholeV (x :: r) = .tuple #[.int .i64 0, .bool false] := by
          have hd : decodeOk x r = false := by simp [decodeOk, hs]
          simp [wholeV, decode, hd]
        rw [e]
        exact whole_u x hx b o (r.length + 1) c hm (by omega) (by omega) hc hk2 w _ hbl hfx hs hrd h0
    · have e : wholeV (x :: r) = .tuple #[.int .i64 0, .bool false] := by
        have hd : decodeOk x r = false := by simp [decodeOk, hlo]
        simp [wholeV, decode, hd]
      rw [e]
      exact whole_short x hx b o (r.length + 1) c (by omega) hm (by omega) (by omega) w h0
  · have hm' : mayH (hK x) (hT x) (hS x) = false := by simpa using hm
    have e : wholeV (x :: r) = .tuple #[.int .i64 0, .bool false] := by
      have hd : decodeOk x r = false := by simp [decodeOk, hm']
      simp [wholeV, decode, hd]
    rw [e]
    by_cases hk : hK x = 1 ∨ hK x = 2 ∨ hK x = 3 ∨ hK x = 4
    · exact whole_may x hx b o (r.length + 1) c (by omega) hk hm' w h0
    · refine whole_none x hx b o (r.length + 1) c (by omega) ?_ w h0
      simp only [not_or] at hk
      simp [kindV, hk.1, hk.2.1, hk.2.2.1, hk.2.2.2]
end Go.Proofs.Ytnjpjhlodamanaa
