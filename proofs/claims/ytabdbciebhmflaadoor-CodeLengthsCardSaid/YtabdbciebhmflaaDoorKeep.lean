/-
  The contracts of the statements' own helpers (package stockpotkeep): Words, Pairs, Mod.
  Conditions: as each states.
-/
import Derived.Test.YtabdbciebhmflaaDoorMem
namespace Go.Proofs.YtabdbciebhmflaaDoor
open Go.ChangeShapes Go.WideShapes Go.ChangeAt Go.RowKit
set_option linter.unusedVariables false
set_option linter.unusedSimpArgs false
set_option maxRecDepth 100000

/-- v is a slice of n elements whose cells read as cs. -/
def readsAt (w : World) (v : Value) (n : Nat) (cs : List Value) : Prop :=
  ∃ a c, v = .slice a n c ∧ (n = 0 ∨ ∃ b o, a = some ⟨b, o, none⟩ ∧ ∀ j u, cs[j]? = some u → w.cell? ⟨b, o + j, none⟩ = some u)

theorem readsAt.of_owns {w : World} {B : Nat} {e : TypeId} {size : Nat} {v : Value} {n : Nat} {xs : List Value} (h : w.ownsRow B e size v n xs) : readsAt w v n xs := by
  rcases owns_parts h with ⟨rfl, rfl, rfl⟩ | ⟨g, cap, rest, rfl, hg, hr, hl, hcap, hn, hm⟩
  · exact ⟨_, _, rfl, .inl rfl⟩
  · refine ⟨_, _, rfl, .inr ⟨g, 0, rfl, fun j u hj => ?_⟩⟩
    rw [hr.cell, Nat.zero_add, List.getElem?_append_left (List.getElem?_eq_some_iff.1 hj).1]
    exact hj
theorem readsAt.below {w w' : World} {v : Value} {n : Nat} {cs : List Value} (h : readsAt w v n cs) (hl : n = 0 ∨ 0 < cs.length) (hb : Below w.heap.size w w') : readsAt w' v n cs := by
  obtain ⟨a, c, rfl, h⟩ := h
  refine ⟨a, c, rfl, ?_⟩
  rcases h with h | ⟨b, o, rfl, h⟩
  · exact .inl h
  · refine .inr ⟨b, o, rfl, fun j u hj => ?_⟩
    have hc := h j u hj
    exact (hb.cell (p := ⟨b, o + j, none⟩) (World.block_lt_of_cell? w _ hc)).trans hc

theorem readsAt.row {w : World} {b n c : Nat} {T : TypeId} {cs rest : List Value} (h : rowAt w b T (cs ++ rest)) : readsAt w (.slice (some ⟨b, 0, none⟩) n c) n cs := by
  refine ⟨_, _, rfl, .inr ⟨b, 0, rfl, fun j u hj => ?_⟩⟩
  rw [h.cell, Nat.zero_add, List.getElem?_append_left (List.getElem?_eq_some_iff.1 hj).1]
  exact hj

abbrev wordsL (xs : List Int) : List Value := xs.map (Value.int .u64)

def pairsL (xs : List (Int × Int)) : List Value := xs.flatMap fun r => [.int .i64 r.1, .int .i64 r.2]
theorem pairsL_get : ∀ (xs : List (Int × Int)) (k : Nat) (hk : k < xs.length), (pairsL xs)[k * 2]? = some (.int .i64 xs[k].1) ∧ (pairsL xs)[k * 2 + 1]? = some (.int .i64 xs[k].2)
  | [], k, hk => by simp at hk
  | x :: xs, 0, _ => by simp [pairsL]
  | x :: xs, k + 1, hk => by
    have ih := pairsL_get xs k (by simpa using hk)
    have e : (k + 1) * 2 = k * 2 + 1 + 1 := by omega
    rw [e]
    simpa [pairsL] using ih

end Go.Proofs.YtabdbciebhmflaaDoor
