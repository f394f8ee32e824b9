/-
  A row of entries in memory ('RowIn'); Len, place, Less of it.
  Conditions: as stated.
-/
import Derived.Test.YtgcmkhbpkmfpkaaQB
namespace Go.Proofs.Ytgcmkhbpkmfpkaa
open Go.ChangeShapes Go.WideShapes Go.ChangeAt Go.RowKit
set_option linter.unusedVariables false
set_option linter.unusedSimpArgs false
set_option maxRecDepth 100000

structure RowIn (w : World) (p bm : Nat) (sv : Value) (l : List En) : Prop where
  root : rowAt w p 50 [sv, .map (some bm)]
  ents : w.ownsRow 0 59 2 sv l.length (pairsL l)
  places : ∃ f, mapAt w bm (fun k => (f k).map fun i : Nat => Value.int .i64 i) ∧ Places f l
  pm : p ≠ bm
  own : ∀ g, sv.ownBlock = some g → g ≠ p ∧ g ≠ bm
  max : l.length ≤ 100000

def footR (p bm : Nat) (sv : Value) : Nat → Prop := fun k => k = p ∨ k = bm ∨ sv.ownBlock = some k

theorem RowIn.upon {w w' : World} {p bm : Nat} {sv : Value} {l : List En} (h : RowIn w p bm sv l) {S : Nat → Prop} (hu : Upon S w w') (hS : ∀ k, footR p bm sv k → ¬ S k) : RowIn w' p bm sv l :=
  ⟨h.root.upon hu (hS p (.inl rfl)), owns_upon h.ents hu fun g hg => hS g (.inr (.inr hg)), h.places.imp fun f hf => ⟨hf.1.upon hu (hS bm (.inr (.inl rfl))), hf.2⟩, h.pm, h.own, h.max⟩
theorem RowIn.lt {w : World} {p bm : Nat} {sv : Value} {l : List En} (h : RowIn w p bm sv l) : ∀ k, footR p bm sv k → k < w.heap.size := by
  rintro k (rfl | rfl | hk)
  · exact h.root.lt
  · obtain ⟨f, hf, _⟩ := h.places; exact hf.lt
  · exact (h.ents.lt k hk).2
theorem RowIn.below {w w' : World} {p bm : Nat} {sv : Value} {l : List En} (h : RowIn w p bm sv l) (hb : Below w.heap.size w w') : RowIn w' p bm sv l :=
  h.upon (S := fun _ => False) (Upon.of_below hb) (fun _ _ h => h)

theorem under_mapi : Try.prog.underlying 47 = some (.map 3 3) := by kernel_rfl
theorem under_int : Try.prog.underlying 3 = some (.int .i64) := by kernel_rfl
theorem zero_int (w : World) : (zeroValue 3).run Try.prog w = .ok (.int .i64 0) w := by kernel_rfl

theorem length_pairsL (l : List En) : (pairsL l).length = l.length * 2 := by
  induction l with
  | nil => rfl
  | cons e l ih => simp only [pairsL] at ih ⊢; simp [ih]; omega

/-- The row's block, with what lies behind the entries. -/
theorem RowIn.block {w : World} {p bm : Nat} {sv : Value} {l : List En} (h : RowIn w p bm sv l) (h0 : 0 < l.length) :
    ∃ g cap rest, sv = .slice (some ⟨g, 0, none⟩) l.length cap ∧ rowAt w g 59 (pairsL l ++ rest) ∧ l.length ≤ cap ∧ cap ≤ maxLen ∧ l.length * 2 + rest.length = cap * 2 := by
  rcases owns_parts h.ents with ⟨_, hn, _⟩ | ⟨g, cap, rest, h1, _, h2, h3, h4, h5, h6⟩
  · omega
  · exact ⟨g, cap, rest, h1, h2, h5, h6, by rw [← length_pairsL]; exact h4⟩

theorem RowIn.cells {w : World} {g : Nat} {l : List En} {rest : List Value} (h : rowAt w g 59 (pairsL l ++ rest)) {i : Nat} (hi : i < l.length) :
    w.cell? ⟨g, i * 2, none⟩ = some (.int .i64 (atE l i).1) ∧ w.cell? ⟨g, i * 2 + 1, none⟩ = some (.int .i64 (atE l i).2) := by
  obtain ⟨h1, h2⟩ := pairsL_get l i hi
  have hl := length_pairsL l
  rw [h.cell, h.cell, List.getElem?_append_left (by omega), List.getElem?_append_left (by omega), h1, h2, atE_get hi]
  exact ⟨rfl, rfl⟩

theorem rlen_any {w : World} {p bm : Nat} {sv : Value} {l : List En} (h : RowIn w p bm sv l) :
    Calls Try.prog 38 #[.pointer (some ⟨p, 0, none⟩)] w fun e w' => e = .returned (.int .i64 l.length) ∧ w = w' := by
  have c0 : w.cell? ⟨p, 0, none⟩ = some sv := (h.root.cell 0).trans rfl
  rcases owns_parts h.ents with ⟨rfl, hn, _⟩ | ⟨g, cap, rest, rfl, _, h2, h3, h4, h5, h6⟩
  · have HN := Lib.hid hn
    clear hn h
    go_enter Try.func38, Try.ntmps38
    go_wp2
    go_ret
    exact ⟨by rw [HN.out]; rfl, rfl⟩
  · clear h h2 h3 h4 h5 h6
    go_enter Try.func38, Try.ntmps38
    go_wp2
    go_ret
    exact ⟨rfl, rfl⟩

theorem rplace_any {w : World} {p bm : Nat} {sv : Value} {f : Int → Option Nat} (hr : rowAt w p 50 [sv, .map (some bm)]) (hm : mapAt w bm (fun k => (f k).map fun i : Nat => Value.int .i64 i)) (k : Int) :
    Calls Try.prog 43 #[.pointer (some ⟨p, 0, none⟩), .int .i64 k] w fun e w' => e = .returned (.tuple #[.int .i64 ((f k).getD 0 : Nat), .bool (f k).isSome]) ∧ w = w' := by
  have c1 : w.cell? ⟨p, 1, none⟩ = some (.map (some bm)) := (hr.cell 1).trans rfl
  have hl := run_lookup_int under_mapi under_int hm (zero_int w) k true
  simp only [if_true, Option.isSome_map] at hl
  have e1 : ((f k).map fun i : Nat => Value.int .i64 i).getD (.int .i64 0) = .int .i64 ((f k).getD 0 : Nat) := by cases f k <;> rfl
  rw [e1] at hl
  clear e1 hr hm
  generalize (f k).isSome = b at hl ⊢
  generalize (f k).getD 0 = i at hl ⊢
  go_enter Try.func43, Try.ntmps43
  go_wp2
  go_ret2
  exact ⟨rfl, rfl⟩

theorem rless_any {w : World} {p bm : Nat} {sv : Value} {l : List En} (h : RowIn w p bm sv l) {i j : Nat} (hi : i < l.length) (hj : j < l.length) :
    Calls Try.prog 39 #[.pointer (some ⟨p, 0, none⟩), .int .i64 i, .int .i64 j] w fun e w' => e = .returned (.bool (decide (ltE (atE l i) (atE l j)))) ∧ Below w.heap.size w w' := by
  obtain ⟨g, cap, rest, rfl, hg, _⟩ := h.block (by omega)
  have c0 : w.cell? ⟨p, 0, none⟩ = some (.slice (some ⟨g, 0, none⟩) l.length cap) := (h.root.cell 0).trans rfl
  obtain ⟨a1, a2⟩ := RowIn.cells hg hi
  obtain ⟨b1, b2⟩ := RowIn.cells hg hj
  have hm := h.max
  rw [← cmpE_lt]
  have HC := Lib.hid (fun W => compare_any (atE l i) (atE l j) W)
  generalize cmpE (atE l i) (atE l j) = c at HC ⊢
  generalize (atE l i).1 = k1 at *
  generalize (atE l i).2 = r1 at *
  generalize (atE l j).1 = k2 at *
  generalize (atE l j).2 = r2 at *
  clear h hg
  have hi' : (i : Int) < (l.length : Int) := by omega
  have hj' : (j : Int) < (l.length : Int) := by omega
  go_enter Try.func39, Try.ntmps39
  go_wp2_with fail
  refine wp_region_still_tail 14 (by kernel_rfl) (by kernel_rfl) ?_
  simp only [List.take_succ_cons, List.take_zero, List.drop_succ_cons, List.drop_zero]
  iterate 14 still_step
  refine wpStill_nil ?_
  change wpList _ _ _ _ _ w.drew
  go_wp2_with fail
  refine (HC.out _).mono ?_
  rintro e w1 ⟨rfl, q, os', hq⟩
  have hb : Below w.heap.size w w1 := by have h := below_grow (W := w.drew) hq; exact ⟨h.os, h.tape, h.output, h.size, h.block⟩
  have HB := Lib.hid hb
  clear hb hq
  go_wp2
  go_ret
  exact ⟨rfl, HB.out⟩

end Go.Proofs.Ytgcmkhbpkmfpkaa
