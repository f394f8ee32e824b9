/-
  The statements' copies: OwnWords, OwnObject.
  Conditions: as each states.
-/
import Derived.Test.YtnjpjhlodamanaaObD
import Derived.Test.YtnjpjhlodamanaaSlices
import Derived.Test.YtnjpjhlodamanaaKeep
namespace Go.Proofs.Ytnjpjhlodamanaa
open Go.ChangeShapes Go.WideShapes Go.ChangeAt Go.RowKit
set_option linter.unusedVariables false
set_option linter.unusedSimpArgs false
set_option maxRecDepth 100000

theorem ownWords_any {w : World} {a : Option Addr} {c : Nat} {xs : List Int} (hr : readsAt w (.slice a xs.length c) xs.length (wordsL xs)) (hl : xs.length * 8 ≤ 140737488355328) :
    Calls Try.prog 27 #[.slice a xs.length c] w fun e w' => ∃ b d, e = .returned (.slice b xs.length d) ∧ w'.ownsRow w.heap.size 39 1 (.slice b xs.length d) xs.length (wordsL xs) ∧ Below w.heap.size w w' := by
  obtain ⟨i0, hi, hz0, hz1, hz2⟩ := info_parts info_word
  obtain ⟨a', c', e0, hr⟩ := hr
  cases e0
  cases a with
  | none =>
    have hx : xs = [] := by
      rcases hr with h | ⟨b, o, h, _⟩
      · exact List.length_eq_zero_iff.1 h
      · cases h
    subst hx
    clear hr
    go_enter Try.func27, Try.ntmps27
    go_wp2
    go_ret
    refine ⟨some ⟨w.heap.size, 0, none⟩, 0, rfl, ?_, bl_alloc (Below.refl _ _) _⟩
    exact owns_mk (rest := []) (rowAt.made w 39 []) (Nat.le_refl _) rfl rfl (Nat.le_refl _) (Nat.zero_le _)
  | some ad =>
    have hc : ∀ j u, (wordsL xs)[j]? = some u → w.cell? (ad.add j) = some u := by
      intro j u hj
      rcases hr with h | ⟨b, o, h, hc⟩
      · have := (List.getElem?_eq_some_iff.1 hj).1
        rw [List.length_map] at this
        omega
      · cases h
        rw [Addr.add_lit]
        exact hc j u hj
    have HC : Hid (∀ j u, (wordsL xs)[j]? = some u → w.cell? (ad.add j) = some u) := hc
    have HL := Lib.hid hl
    clear hr hc hl
    go_enter Try.func27, Try.ntmps27
    go_wp2_with (at_builtin; refine wpList_append_own _ rfl _ _ 30 rfl w.heap.size 39 i0 (.int .u64 0) 1 8 under_words hi hz0 hz1 hz2 rfl (by decide) _ _ _ rfl (World.ownsRow_made w #[] 0 (Nat.le_refl _) (Nat.zero_le _) (by simp)) ad xs.length c (words xs) rfl ?qc1 ?qc2 ?qc3 ?qc4 ?qc5 ?qc6 ?_)
    case qc1 => simp
    case qc2 =>
      intro j u hj
      exact Lib.cell?_alloc_some _ (HC.out j u hj)
    case qc3 => exact oneCell_words xs
    case qc4 => simp only [maxLen]; have := HL.out; omega
    case qc5 => have := HL.out; omega
    case qc6 => simp
    intro v' w1 hown hgrow hnil
    go_wp2
    go_ret
    have ho : w1.ownsRow w.heap.size 39 1 v' xs.length (wordsL xs) := by simpa using hown
    obtain ⟨b, d, rfl⟩ := owns_slice ho
    exact ⟨b, d, rfl, ho, ((Below.refl _ w).alloc (Nat.le_refl _) _).grown hgrow (by simp) (by intro k hk; simp [Value.ownBlock] at hk; omega)⟩

theorem owns_set' {w : World} {B : Nat} {e : TypeId} {size : Nat} {v : Value} {n : Nat} {xs : List Value} (h : w.ownsRow B e size v n xs) (p : Addr) (u : Value) (hp : p.block < B) : (w.setCell p u).ownsRow B e size v n xs :=
  owns_of_heap h fun g hg => Below.heap_setCell _ _ _ _ fun e => by have := (h.lt g hg).1; omega
theorem owns_drew' {w : World} {B : Nat} {e : TypeId} {size : Nat} {v : Value} {n : Nat} {xs : List Value} (h : w.ownsRow B e size v n xs) : w.drew.ownsRow B e size v n xs := h

end Go.Proofs.Ytnjpjhlodamanaa
