/-
  Pop of a row.
  Conditions: as stated.
-/
import Derived.Test.YtgcmkhbpkmfpkaaQG
namespace Go.Proofs.Ytgcmkhbpkmfpkaa
open Go.ChangeShapes Go.WideShapes Go.ChangeAt Go.RowKit
set_option linter.unusedVariables false
set_option linter.unusedSimpArgs false
set_option maxRecDepth 100000

set_option maxHeartbeats 6400000 in
theorem rpop_any {w : World} {p bm : Nat} {sv : Value} {l : List En} (h : RowIn w p bm sv l) {n : Nat} (hn : l.length = n + 1) :
    Calls Try.prog 40 #[.pointer (some ⟨p, 0, none⟩)] w fun x w' => x = .returned (.iface 59 (.agg #[.int .i64 (atE l n).1, .int .i64 (atE l n).2])) ∧ ∃ sv', RowIn w' p bm sv' (l.take n) ∧ Upon (footR p bm sv) w w' ∧ sv'.ownBlock = sv.ownBlock := by
  obtain ⟨g, cap, rest, rfl, hg, hc, hc2, hc3⟩ := h.block (by omega)
  obtain ⟨i0, hi, hz0, hz1, hz2⟩ := info_parts info_entry
  obtain ⟨a1, a2⟩ := RowIn.cells hg (i := n) (by omega)
  have c0 : w.cell? ⟨p, 0, none⟩ = some (.slice (some ⟨g, 0, none⟩) l.length cap) := (h.root.cell 0).trans rfl
  have c1 : w.cell? ⟨p, 1, none⟩ = some (.map (some bm)) := (h.root.cell 1).trans rfl
  have f0 := h.root.free 0
  have hm := h.max
  have sl := fun w => run_slice_to_w 48 59 under_ents hi (some ⟨g, 0, none⟩) (n := l.length) (c := cap) (k := n) (by omega) hc w
  have e0 : (l.length : Int) - 1 = (n : Int) := by omega
  have hnl : (n : Int) < (l.length : Int) := by omega
  have HN := Lib.hid hn
  obtain ⟨k, hk⟩ : ∃ x, (atE l n).1 = x := ⟨_, rfl⟩
  obtain ⟨r, hr⟩ : ∃ x, (atE l n).2 = x := ⟨_, rfl⟩
  rw [hk] at a1
  rw [hr] at a2
  rw [hk, hr]
  have HK := Lib.hid hk
  have H := Lib.hid h
  have HG := Lib.hid hg
  have hpl := h.root.lt
  clear h hg hn hk hr
  go_enter Try.func40, Try.ntmps40
  go_wp2_with fail
  obtain ⟨W, hW⟩ : ∃ W, (w.setCell ⟨p, 0, none⟩ (.slice (some ⟨g, 0, none⟩) n cap)).alloc (.cells #[.int .i64 k, .int .i64 r] 59) = W := ⟨_, rfl⟩
  have hk := HK.out
  have hn := HN.out
  have hpm := H.out.pm
  have hgp := H.out.own g rfl
  have hu1 : Upon (fun b => b = p) w (w.setCell ⟨p, 0, none⟩ (.slice (some ⟨g, 0, none⟩) n cap)) := Upon.setCell _ _ rfl
  have huW : Upon (fun b => b = p) w W := by
    rw [← hW]
    exact hu1.trans (Upon.alloc (fun _ => False) _ _) fun _ _ h => h.elim
  have hrW : rowAt W p 50 [.slice (some ⟨g, 0, none⟩) n cap, .map (some bm)] := by
    rw [← hW]
    exact (H.out.root.set 0 (.slice (some ⟨g, 0, none⟩) n cap)).alloc _
  obtain ⟨f, hf, hpls⟩ := H.out.places
  have hmW := hf.upon huW (Ne.symm hpm)
  have hgW := HG.out.upon huW hgp.1
  have ceW : rowAt W w.heap.size 59 [.int .i64 k, .int .i64 r] := by rw [← hW]; exact rowAt.made_at _ _ (by simp)
  have hfk : f k = some n := (hpls k n).2 ⟨by omega, hk⟩
  have hps := hpls.pop hn
  rw [hk] at hps
  obtain ⟨w1, hrun, hm1, hu2⟩ := run_delete_int (w := W.drew) under_mapi under_int hmW k (by rw [hfk]; rfl)
  have hml := hf.lt
  have hr1 : rowAt w1 p 50 [.slice (some ⟨g, 0, none⟩) n cap, .map (some bm)] := rowAt.upon (w := W.drew) hrW hu2 hpm
  have hg1 : rowAt w1 g 59 (pairsL l ++ rest) := rowAt.upon (w := W.drew) hgW hu2 hgp.2
  have ce1 : rowAt w1 w.heap.size 59 [.int .i64 k, .int .i64 r] := rowAt.upon (w := W.drew) ceW hu2 (by omega)
  have HIN : Hid (RowIn w1 p bm (.slice (some ⟨g, 0, none⟩) n cap) (l.take n)) := by
    have hl : (l.take n).length = n := by simp; omega
    have hll := length_pairsL l
    refine ⟨hr1, ?_, ⟨_, hm1.congr fun j => ?_, hps⟩, hpm, H.out.own, by omega⟩
    · rw [hl]
      have e : pairsL l ++ rest = pairsL (l.take n) ++ (pairsL (l.drop n) ++ rest) := by
        rw [← List.append_assoc]
        congr 1
        unfold pairsL
        rw [← List.flatMap_append, List.take_append_drop]
      rw [e] at hg1
      have h2 := length_pairsL (l.take n)
      have h3 := length_pairsL (l.drop n)
      have h4 : (l.drop n).length = 1 := by simp; omega
      exact owns_mk hg1 (Nat.zero_le _) (by rw [h2, hl]) (by rw [h2, hl, List.length_append, h3, h4]; omega) (by omega) hc2
    · by_cases hj : j = k <;> simp [hj]
  have HU : Hid (Upon (footR p bm (.slice (some ⟨g, 0, none⟩) l.length cap)) w w1) := by
    have y : Upon (footR p bm (.slice (some ⟨g, 0, none⟩) l.length cap)) W w1 := ⟨hu2.os, hu2.tape, hu2.output, hu2.size, fun k hk hs => hu2.block k hk fun e => hs (.inr (.inl e))⟩
    exact (huW.mono (T := footR p bm (.slice (some ⟨g, 0, none⟩) l.length cap)) fun k _ e => .inl e).trans y fun _ _ h => h
  have d1 : W.cell? ⟨p, 1, none⟩ = some (.map (some bm)) := (hrW.cell 1).trans rfl
  have d2 : W.cell? ⟨w.heap.size, 0, none⟩ = some (.int .i64 k) := (ceW.cell 0).trans rfl
  have d3 : w1.cell? ⟨w.heap.size, 0, none⟩ = some (.int .i64 k) := (ce1.cell 0).trans rfl
  have d4 : w1.cell? ⟨w.heap.size, 1, none⟩ = some (.int .i64 r) := (ce1.cell 1).trans rfl
  rw [hW]
  clear hW hk hn hgp hu1 huW hrW hf hpls hmW hgW ceW hfk hps hm1 hu2 hr1 hg1 ce1 c0 c1 a1 a2 f0 sl e0
  refine wp_region_still_tail 6 (by kernel_rfl) (by kernel_rfl) ?_
  simp only [List.take_succ_cons, List.take_zero, List.drop_succ_cons, List.drop_zero]
  iterate 6 still_step
  refine wpStill_nil ?_
  change wpList _ _ _ _ _ W.drew
  go_wp2_with fail
  go_ret
  exact ⟨rfl, _, HIN.out, HU.out, rfl⟩

end Go.Proofs.Ytgcmkhbpkmfpkaa
