/-
  Swap of a row.
  Conditions: as stated.
-/
import Derived.Test.YtgcmkhbpkmfpkaaQC
import Derived.BigRegion
import Derived.Outline
namespace Go.Proofs.Ytgcmkhbpkmfpkaa
open Go.ChangeShapes Go.WideShapes Go.ChangeAt Go.RowKit
set_option linter.unusedVariables false
set_option linter.unusedSimpArgs false
set_option maxRecDepth 100000

theorem pairsL_set : ∀ (l : List En) (i : Nat) (a b : Int) (rest : List Value), i < l.length →
    ((pairsL l ++ rest).set (i * 2) (.int .i64 a)).set (i * 2 + 1) (.int .i64 b) = pairsL (l.set i (a, b)) ++ rest
  | [], i, _, _, _, h => by simp at h
  | e :: l, 0, a, b, rest, _ => by simp [pairsL]
  | e :: l, i + 1, a, b, rest, h => by
    have ih := pairsL_set l i a b rest (by simpa using h)
    have e1 : (i + 1) * 2 = i * 2 + 1 + 1 := by omega
    rw [e1]
    simp only [pairsL, List.flatMap_cons, List.set_cons_succ, List.cons_append, List.nil_append] at ih ⊢
    rw [ih]

theorem pairsL_swp {l : List En} {i j : Nat} (rest : List Value) (hi : i < l.length) (hj : j < l.length) :
    ((((pairsL l ++ rest).set (i * 2) (.int .i64 (atE l j).1)).set (i * 2 + 1) (.int .i64 (atE l j).2)).set (j * 2) (.int .i64 (atE l i).1)).set (j * 2 + 1) (.int .i64 (atE l i).2) = pairsL (swp l i j) ++ rest := by
  rw [pairsL_set l i _ _ rest hi, pairsL_set _ j _ _ rest (by simpa using hj)]
  rfl

theorem upon_set4 (w : World) (g a b c d : Nat) (x y z t : Value) :
    Upon (fun k => k = g) w ((((w.setCell ⟨g, a, none⟩ x).setCell ⟨g, b, none⟩ y).setCell ⟨g, c, none⟩ z).setCell ⟨g, d, none⟩ t).drew := by
  have h1 := Upon.setCell (S := fun k => k = g) (w := w) ⟨g, a, none⟩ x rfl
  have h2 := Upon.setCell (S := fun k => k = g) (w := w.setCell ⟨g, a, none⟩ x) ⟨g, b, none⟩ y rfl
  have h3 := Upon.setCell (S := fun k => k = g) (w := (w.setCell ⟨g, a, none⟩ x).setCell ⟨g, b, none⟩ y) ⟨g, c, none⟩ z rfl
  have h4 := Upon.setCell (S := fun k => k = g) (w := ((w.setCell ⟨g, a, none⟩ x).setCell ⟨g, b, none⟩ y).setCell ⟨g, c, none⟩ z) ⟨g, d, none⟩ t rfl
  have h := ((h1.trans h2 fun _ _ h => h).trans h3 fun _ _ h => h).trans h4 fun _ _ h => h
  exact ⟨h.os, h.tape, h.output, h.size, h.block⟩

set_option maxHeartbeats 1600000 in
theorem rswap_any {w : World} {p bm : Nat} {sv : Value} {l : List En} (h : RowIn w p bm sv l) {i j : Nat} (hi : i < l.length) (hj : j < l.length) (hij : i ≠ j) :
    Calls Try.prog 42 #[.pointer (some ⟨p, 0, none⟩), .int .i64 i, .int .i64 j] w fun e w' => e = .returned (.tuple #[]) ∧ RowIn w' p bm sv (swp l i j) ∧ Upon (footR p bm sv) w w' := by
  obtain ⟨g, cap, rest, rfl, hg, _⟩ := h.block (by omega)
  have c0 : w.cell? ⟨p, 0, none⟩ = some (.slice (some ⟨g, 0, none⟩) l.length cap) := (h.root.cell 0).trans rfl
  obtain ⟨a1, a2⟩ := RowIn.cells hg hi
  obtain ⟨b1, b2⟩ := RowIn.cells hg hj
  have f1 := hg.free (i * 2)
  have f2 := hg.free (i * 2 + 1)
  have f3 := hg.free (j * 2)
  have f4 := hg.free (j * 2 + 1)
  have hm := h.max
  have hgp := (h.own g rfl).1
  have hne : i * 2 ≠ j * 2 := by omega
  have H := Lib.hid h
  have HG := Lib.hid hg
  obtain ⟨k1, hk1⟩ : ∃ x, (atE l i).1 = x := ⟨_, rfl⟩
  obtain ⟨r1, hr1⟩ : ∃ x, (atE l i).2 = x := ⟨_, rfl⟩
  obtain ⟨k2, hk2⟩ : ∃ x, (atE l j).1 = x := ⟨_, rfl⟩
  obtain ⟨r2, hr2⟩ : ∃ x, (atE l j).2 = x := ⟨_, rfl⟩
  rw [hk1] at a1
  rw [hr1] at a2
  rw [hk2] at b1
  rw [hr2] at b2
  have HE := Lib.hid (And.intro hk1 (And.intro hr1 (And.intro hk2 hr2)))
  clear h hg hk1 hr1 hk2 hr2
  have hi' : (i : Int) < (l.length : Int) := by omega
  have hj' : (j : Int) < (l.length : Int) := by omega
  go_enter Try.func42, Try.ntmps42
  go_wp2_with fail
  go_region
  go_wp2_with fail
  obtain ⟨W, hW⟩ : ∃ W, ((((w.setCell ⟨g, i * 2, none⟩ (.int .i64 k2)).setCell ⟨g, i * 2 + 1, none⟩ (.int .i64 r2)).setCell ⟨g, j * 2, none⟩ (.int .i64 k1)).setCell ⟨g, j * 2 + 1, none⟩ (.int .i64 r1)).drew = W := ⟨_, rfl⟩
  obtain ⟨hk1, hr1, hk2, hr2⟩ := HE.out
  have hug : Upon (fun k => k = g) w W := by
    rw [← hW]
    exact upon_set4 w g _ _ _ _ _ _ _ _
  have hu : Upon (footR p bm (.slice (some ⟨g, 0, none⟩) l.length cap)) w W := hug.mono fun k _ e => .inr (.inr (by rw [e]; rfl))
  have hgW : rowAt W g 59 (pairsL (swp l i j) ++ rest) := by
    have := (((HG.out.set (i * 2) (.int .i64 k2)).set (i * 2 + 1) (.int .i64 r2)).set (j * 2) (.int .i64 k1)).set (j * 2 + 1) (.int .i64 r1)
    have := this.drew
    rw [hW, ← hk1, ← hr1, ← hk2, ← hr2, pairsL_swp rest hi hj] at this
    exact this
  have hrW : rowAt W p 50 [.slice (some ⟨g, 0, none⟩) l.length cap, .map (some bm)] := H.out.root.upon hug fun e => (H.out.own g rfl).1 e.symm
  obtain ⟨f, hf, hpl⟩ := H.out.places
  have hmW := hf.upon hug fun e => (H.out.own g rfl).2 e.symm
  have hsl := length_swp l i j
  have hsi : atE (swp l i j) i = atE l j := by rw [atE_swp hi hj]; unfold swpF; rw [if_neg hij, if_pos rfl]
  have hsj : atE (swp l i j) j = atE l i := by rw [atE_swp hi hj]; unfold swpF; rw [if_pos rfl]
  obtain ⟨d1, _⟩ := RowIn.cells hgW (i := i) (by rw [hsl]; exact hi)
  obtain ⟨d2, _⟩ := RowIn.cells hgW (i := j) (by rw [hsl]; exact hj)
  rw [hsi, hk2] at d1
  rw [hsj, hk1] at d2
  have hps := hpl.swap hi hj
  rw [hsj, hsi, hk1, hk2] at hps
  obtain ⟨w1, hrun1, hm1, hu1⟩ := run_mapUpdate_int (w := W.drew) under_mapi under_int hmW k2 (.int .i64 i)
  obtain ⟨w2, hrun2, hm2, hu2⟩ := run_mapUpdate_int (w := w1.drew) under_mapi under_int hm1 k1 (.int .i64 j)
  have hr1' : rowAt w1 p 50 [.slice (some ⟨g, 0, none⟩) l.length cap, .map (some bm)] := rowAt.upon (w := W.drew) hrW hu1 H.out.pm
  have hg1 : rowAt w1 g 59 (pairsL (swp l i j) ++ rest) := rowAt.upon (w := W.drew) hgW hu1 (H.out.own g rfl).2
  have hr2' : rowAt w2 p 50 [.slice (some ⟨g, 0, none⟩) l.length cap, .map (some bm)] := rowAt.upon (w := w1.drew) hr1' hu2 H.out.pm
  have hg2 : rowAt w2 g 59 (pairsL (swp l i j) ++ rest) := rowAt.upon (w := w1.drew) hg1 hu2 (H.out.own g rfl).2
  have HU : Hid (Upon (footR p bm (.slice (some ⟨g, 0, none⟩) l.length cap)) w w2) := by
    have a : Upon (footR p bm (.slice (some ⟨g, 0, none⟩) l.length cap)) W w1 := ⟨hu1.os, hu1.tape, hu1.output, hu1.size, fun k hk hs => hu1.block k hk fun e => hs (.inr (.inl e))⟩
    have b : Upon (footR p bm (.slice (some ⟨g, 0, none⟩) l.length cap)) w1 w2 := ⟨hu2.os, hu2.tape, hu2.output, hu2.size, fun k hk hs => hu2.block k hk fun e => hs (.inr (.inl e))⟩
    exact (hu.trans a fun _ _ h => h).trans b fun _ _ h => h
  have HIN : Hid (RowIn w2 p bm (.slice (some ⟨g, 0, none⟩) l.length cap) (swp l i j)) := by
    rcases owns_parts H.out.ents with ⟨h0, _⟩ | ⟨g', cap', rest', h0, _, _, h3, h4, h5, h6⟩
    · cases h0
    cases h0
    refine ⟨hr2', ?_, ⟨_, hm2.congr fun k => ?_, hps⟩, H.out.pm, H.out.own, by rw [hsl]; exact H.out.max⟩
    · have hgl : (pairsL (swp l i j)).length = l.length * 2 := by rw [length_pairsL, hsl]
      rw [hsl]
      exact owns_mk hg2 (Nat.zero_le _) hgl (by rw [hgl]; omega) h5 h6
    · split
      · rfl
      · split <;> rfl
  have e0 : W.cell? ⟨p, 0, none⟩ = some (.slice (some ⟨g, 0, none⟩) l.length cap) := (hrW.cell 0).trans rfl
  have e1 : W.cell? ⟨p, 1, none⟩ = some (.map (some bm)) := (hrW.cell 1).trans rfl
  have g0 : w1.cell? ⟨p, 0, none⟩ = some (.slice (some ⟨g, 0, none⟩) l.length cap) := (hr1'.cell 0).trans rfl
  have g1 : w1.cell? ⟨p, 1, none⟩ = some (.map (some bm)) := (hr1'.cell 1).trans rfl
  have g2 : w1.cell? ⟨g, j * 2, none⟩ = some (.int .i64 k1) := by
    have := (RowIn.cells hg1 (i := j) (by rw [hsl]; exact hj)).1
    rw [hsj, hk1] at this
    exact this
  rw [hW]
  clear hW hk1 hr1 hk2 hr2 hu hug hgW hrW hf hpl hmW hsl hsi hsj hps hm1 hm2 hu1 hu2 hr1' hg1 hr2' hg2 c0 a1 a2 b1 b2 f1 f2 f3 f4
  refine wp_region_still_tail 13 (by kernel_rfl) (by kernel_rfl) ?_
  simp only [List.take_succ_cons, List.take_zero, List.drop_succ_cons, List.drop_zero]
  iterate 13 still_step
  refine wpStill_nil ?_
  change wpList _ _ _ _ _ W.drew
  go_wp2_with fail
  refine wp_region_still_tail 13 (by kernel_rfl) (by kernel_rfl) ?_
  simp only [List.take_succ_cons, List.take_zero, List.drop_succ_cons, List.drop_zero]
  iterate 13 still_step
  refine wpStill_nil ?_
  change wpList _ _ _ _ _ w1.drew
  go_wp2_with fail
  go_end0
  exact ⟨rfl, HIN.out, HU.out⟩

end Go.Proofs.Ytgcmkhbpkmfpkaa
