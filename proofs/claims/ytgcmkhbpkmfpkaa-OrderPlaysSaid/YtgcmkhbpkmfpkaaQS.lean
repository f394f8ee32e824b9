/-
  Drop of the document's queue.
  Conditions: as stated.
-/
import Derived.Test.YtgcmkhbpkmfpkaaQR
namespace Go.Proofs.Ytgcmkhbpkmfpkaa
open Go.ChangeShapes Go.WideShapes Go.ChangeAt Go.RowKit
set_option linter.unusedVariables false
set_option linter.unusedSimpArgs false
set_option maxRecDepth 100000

theorem owns_emptyQ (w : World) (t : TypeId) : (w.alloc (.cells #[] t)).drew.ownsRow w.heap.size t 2 (.slice (some ⟨w.heap.size, 0, none⟩) 0 0) 0 [] :=
  World.ownsRow_made w.drew #[] 0 (Nat.le_refl _) (Nat.zero_le _) (by simp)

set_option maxHeartbeats 8000000 in
theorem rdrop_yes {w : World} {pr : Nat} {a : Option Addr} {c : Nat} {s : List En} (h : RefQ w pr a c s) (hnd : (s.map (·.1)).Nodup) {k : Int} (hk : ∃ x ∈ s, x.1 = k) :
    Calls Try.prog 12 #[.pointer (some ⟨pr, 0, none⟩), .int .i64 k] w fun e w' => e = .returned (.bool true) ∧ RelaidQ pr (s.filter fun x => decide (x.1 ≠ k)) w w' := by
  obtain ⟨x, hx, hxk⟩ := hk
  obtain ⟨j0, hj0, rfl⟩ := List.getElem_of_mem hx
  rw [← but_at hnd hj0 hxk]
  obtain ⟨i0, hi, hz0, hz1, hz2⟩ := info_parts info_pairI
  have c0 : w.cell? ⟨pr, 0, none⟩ = some (.slice a s.length c) := (h.root.cell 0).trans rfl
  have hm := h.max
  have hpl := h.root.lt
  have hcap := h.cap
  have HC : Hid (∀ i (hi : i < s.length), ∃ b o, a = some ⟨b, o, none⟩ ∧ w.cell? ⟨b, o + i * 2, none⟩ = some (.int .i64 s[i].1)) := fun i hi => by
    obtain ⟨b, o, e, c1, _⟩ := h.cell hi
    exact ⟨b, o, e, c1⟩
  have HK : Hid (∀ i (hi : i < j0), s[i].1 ≠ k) := fun i hi e => by
    rw [List.nodup_iff_pairwise_ne, List.pairwise_iff_getElem] at hnd
    have := hnd i j0 (by simp; omega) (by simpa using hj0) hi
    simp only [List.getElem_map] at this
    exact this (e.trans hxk.symm)
  have sl1 := fun w => run_slice_to_w 26 35 under_pairsI hi a (n := s.length) (c := c) (k := j0) (by omega) hcap w
  have hw1 : IntKind.i64.wrap ((j0 : Int) + 1) = (j0 : Int) + 1 := IntWalk.i64_in _ (by omega)
  obtain ⟨xa2, hxa⟩ : ∃ x, x = (if c = j0 + 1 then a else a.map (·.add ((j0 + 1) * 2))) := ⟨_, rfl⟩
  have sl2 : ∀ w, (Instr.slice 26 (.slice a s.length c) (some (.int .i64 ((j0 : Int) + 1))) none none).run Try.prog w = .ok (.slice xa2 (s.length - (j0 + 1)) (c - (j0 + 1))) w := fun w => by
    have h := run_slice_from_w 26 35 under_pairsI hi a (n := s.length) (c := c) (k := j0 + 1) (by omega) w
    rw [hz1, ← hxa] at h
    exact h
  have hsrc2 := fun w' (hw : AroundQ w pr a c s w') => AroundQ.from_src hw (i := j0 + 1) (by omega)
  simp only [← hxa] at hsrc2
  have HS2 := Lib.hid hsrc2
  have HST := Lib.hid (fun o => AroundQ.start1 h o)
  have HX := Lib.hid hxk
  clear hsrc2 hxa hx hxk h hnd
  go_enter Try.func12, Try.ntmps12
  go_wp2_with fail
  go_loop [5] (fun iv => ∃ i : Nat, i ≤ j0 ∧ iv = .int .i64 i) (fun iv => s.length - (intOf iv).toNat)
  case atStart => exact ⟨0, Nat.zero_le _, rfl⟩
  case round =>
    obtain ⟨i, hi2, rfl⟩ := hrel
    by_cases hlt : i < j0
    · obtain ⟨b, o, hab, c1⟩ := HC.out i (by omega)
      cases hab
      have f1 : (s[i].1 == k) = false := by simpa using HK.out i hlt
      have hii : (i : Int) < (s.length : Int) := by omega
      go_wp2_with fail
      go_round
      case rel => exact ⟨i + 1, by omega, by go_num⟩
      case measure => simp [intOf]; omega
    · obtain rfl : i = j0 := by omega
      obtain ⟨b, o, hab, c1⟩ := HC.out i hj0
      cases hab
      have f1 : (s[i].1 == k) = true := by simpa using HX.out
      have hii : (i : Int) < (s.length : Int) := by omega
      go_wp2_with fail
      go_region_law (first
          | (refine step_append_aroundQ (w0 := w) hi hz0 hz1 hz2 (by rfl) (.tmp 26) (.tmp 32) (by rfl) (HST.out _) _ 0 [] (by rfl) (owns_emptyQ w _) _ i c (pairsL (s.take i)) (by rfl) (length_pairsL_take _ _ (by omega)) ?c1 (oneCell_pairsL _) ?c3 ?_; (case c1 => exact AroundQ.to_src (HST.out _) (by omega)); (case c3 => omega); intro v1 w1 hown1 hA1 hc1 hf1; rw [Nat.zero_add, List.nil_append] at hown1)
          | (refine step_append_aroundQ (w0 := w) hi hz0 hz1 hz2 (by rfl) (.tmp 33) (.tmp 40) (by rfl) (by assumption) _ i (pairsL (s.take i)) (by rfl) (by assumption) _ (s.length - (i + 1)) (c - (i + 1)) (pairsL (s.drop (i + 1))) (by rfl) (length_pairsL_drop _ _) ?d1 (oneCell_pairsL _) ?d3 ?_; (case d1 => exact HS2.out _ (by assumption)); (case d3 => omega); intro v2 w2 hown2 hA2 hc2 hf2; obtain ⟨a2, n2, rfl⟩ := owns_slice hown2))
      all_goals
        go_wp2
        go_ret
        exact ⟨rfl, relaidQ_end hown2 hA2 (by simp [pairsL]) (by simp; omega) (by simp; omega)⟩

end Go.Proofs.Ytgcmkhbpkmfpkaa
