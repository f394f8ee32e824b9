/-
  The document's words of an object (stockpotref03.Lay).
  Conditions: as each states.
-/
import Derived.Test.YtnjpjhlodamanaaReA
namespace Go.Proofs.Ytnjpjhlodamanaa
open Go.ChangeShapes Go.WideShapes Go.ChangeAt Go.RowKit
set_option linter.unusedVariables false
set_option linter.unusedSimpArgs false
set_option maxRecDepth 100000

theorem empty_text {s : ByteArray} (h : s.size = 0) : s = ⟨#[]⟩ := by
  obtain ⟨d⟩ := s
  have : d.size = 0 := h
  congr 1
  exact Array.eq_empty_of_size_eq_zero this

theorem packN_step' (tx : List UInt8) (n k : Nat) (hk : k < tx.length) :
    packN tx n (k + 1) = (packN tx n k).set (k / 8) (packW (tx.take k) (k / 8) + 256 ^ (k % 8) * (tx[k].toNat : Int)) := by
  apply List.ext_getElem
  · simp [packN]
  · intro j h1 h2
    have hj : j < n := by simpa [packN] using h1
    simp only [packN, List.getElem_map, List.getElem_range, List.getElem_set]
    have hlt : (tx.take k).length = k := by rw [List.length_take]; omega
    by_cases he : k / 8 = j
    · rw [if_pos he]
      subst he
      unfold packW
      rw [List.take_succ_eq_append_getElem hk, List.drop_append_of_le_length (by omega), List.take_append]
      have h3 : ((tx.take k).drop (8 * (k / 8))).length = k % 8 := by rw [List.length_drop, hlt]; omega
      rw [h3, ofBytes_append]
      have h4 : (((tx.take k).drop (8 * (k / 8))).take 8).length = k % 8 := by rw [List.length_take, h3]; omega
      rw [h4]
      congr 1
      have h5 : [tx[k]].take (8 - k % 8) = [tx[k]] := List.take_of_length_le (by simp; omega)
      rw [h5]
      simp [ofBytes]
    · rw [if_neg he]
      unfold packW
      congr 1
      by_cases hc : 8 * j + 8 ≤ k
      · rw [List.take_succ_eq_append_getElem hk, List.drop_append_of_le_length (by omega), List.take_append_of_le_length (by rw [List.length_drop]; omega)]
      · have : k + 1 ≤ 8 * j := by omega
        rw [List.drop_eq_nil_of_le (by rw [List.length_take]; omega), List.drop_eq_nil_of_le (by rw [List.length_take]; omega)]
theorem packN_more (tx : List UInt8) (n k : Nat) (h : k ≤ 8 * n) : packN tx (n + 1) k = packN tx n k ++ [0] := by
  unfold packN
  rw [List.range_succ, List.map_append, List.map_cons, List.map_nil]
  congr 2
  unfold packW
  rw [List.drop_eq_nil_of_le (by rw [List.length_take]; omega)]
  rfl

theorem owns_alloc' {w : World} {B : Nat} {e : TypeId} {size : Nat} {v : Value} {n : Nat} {xs : List Value} (h : w.ownsRow B e size v n xs) (o : Obj) : (w.alloc o).ownsRow B e size v n xs :=
  owns_of_heap h fun g hg => Below.heap_alloc _ _ _ (h.lt g hg).2
theorem orStep {w : World} {g : Nat} {T : TypeId} {X : Int} {tx : List UInt8} {n j : Nat} {rest : List Value} (hn : n = j / 8 + 1) (hj : j < tx.length) (h : rowAt w g T (wordsL (X :: packN tx n j) ++ rest)) :
    w.cell? ⟨g, 1 + j / 8, none⟩ = some (.int .u64 (packW (tx.take j) (j / 8))) ∧ w.frozen? ⟨g, 1 + j / 8, none⟩ = false ∧
      rowAt (w.setCell ⟨g, 1 + j / 8, none⟩ (.int .u64 (packW (tx.take j) (j / 8) + 256 ^ (j % 8) * (tx[j].toNat : Int)))) g T (wordsL (X :: packN tx n (j + 1)) ++ rest) := by
  have hlt : j / 8 < n := by omega
  refine ⟨?_, h.free _, ?_⟩
  · rw [h.cell, List.getElem?_append_left (by simp [packN]; omega), Nat.add_comm 1]
    simp only [wordsL, List.map_cons, List.getElem?_cons_succ]
    rw [ List.getElem?_map, packN, List.getElem?_map, List.getElem?_range hlt]
    rfl
  · have h2 := h.set (1 + j / 8) (.int .u64 (packW (tx.take j) (j / 8) + 256 ^ (j % 8) * (tx[j].toNat : Int)))
    rw [List.set_append_left _ _ (by simp [packN]; omega), Nat.add_comm 1] at h2
    simp only [wordsL, List.map_cons, List.set_cons_succ, ← List.map_set] at h2
    rw [← packN_step' tx n j hj] at h2
    rw [Nat.add_comm 1]
    exact h2
theorem LayS_end {w1 : World} {B : Nat} {v : Value} {tx : List UInt8} {X : Int} {n : Nat} (hn : n = tx.length) (h : w1.ownsRow B 39 1 v (1 + (n + 7) / 8) (wordsL (X :: packN tx ((n + 7) / 8) n))) : w1.ownsRow B 39 1 v (1 + (pack tx).length) (wordsL (X :: pack tx)) := by
  subst hn
  rw [packN_all] at h
  rw [pack_length]
  exact h
end Go.Proofs.Ytnjpjhlodamanaa
