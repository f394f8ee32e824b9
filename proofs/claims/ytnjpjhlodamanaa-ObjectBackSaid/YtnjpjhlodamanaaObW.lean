/-
  The object of a heap that was looked at: a text ('object').
  Conditions: as each states.
-/
import Derived.Test.YtnjpjhlodamanaaObO
namespace Go.Proofs.Ytnjpjhlodamanaa
open Go.ChangeShapes Go.WideShapes Go.ChangeAt Go.RowKit
set_option linter.unusedVariables false
set_option linter.unusedSimpArgs false
set_option maxRecDepth 100000

set_option maxHeartbeats 4000000 in
theorem object_21 (first : Int) (bw bh i n : Nat) (t : Int) (S : Nat) (hmay : mayH 2 t S = true) (hn : n ≤ 2000) (hi : i + 1 + longH 2 S ≤ n) (w : World) (hc : w.cell? ⟨bw, i, none⟩ = some (.int .u64 (headW 2 t S))) (hS0 : S ≠ 0) (xs : List Int) (hxl : xs.length = (S + 7) / 8) (hxf : ∀ x ∈ xs, fitW x) (hxr : ∀ j u, (wordsL xs)[j]? = some u → w.cell? ⟨bw, i + 1 + j, none⟩ = some u) :
    Calls Try.prog 37 #[viewV first (some ⟨bw, 0, none⟩) (some ⟨bh, 0, none⟩) n n, .int .i64 (i : Int)] w fun e w' => ∃ a c, e = .returned (obj 2 t a 0 c ⟨(unpack xs S).toArray⟩) ∧ w'.ownsRow w.heap.size 39 1 (.slice a 0 c) 0 (([] : List Value)) ∧ Below w.heap.size w w' := by
  have hS4 : S ≤ 400 := by have := mayH_bounds hmay; omega
  have HMAY := Lib.hid hmay
  have HI := Lib.hid hi
  have HC := Lib.hid hc
  have HXR : Hid (∀ j u, (wordsL xs)[j]? = some u → w.cell? ⟨bw, i + 1 + j, none⟩ = some u) := hxr
  have HXF : Hid (∀ x ∈ xs, fitW x) := hxf
  have HXL := Lib.hid hxl
  have hbo : bodyA bw i n = some ⟨bw, i + 1, none⟩ := by
    unfold bodyA
    simp only [longH, reduceIte, Int.reduceEq] at hi
    rw [if_neg (by omega)]
  have HBO := Lib.hid hbo
  clear hbo hxr hxf hxl hS0
  have hbw : bw < w.heap.size := World.block_lt_of_cell? w _ hc
  clear hmay hi hc
  go_enter Try.func37, Try.ntmps37
  go_wp2_with fail
  have hc' := fun (o1 o2 : Obj) => (World.cell?_alloc_lt (w.alloc o1) o2 ⟨bw, i, none⟩ (by simp; omega)).trans ((World.cell?_alloc_lt w o1 ⟨bw, i, none⟩ (by simpa using hbw)).trans HC.out)
  refine (at_2 first bw i n (some ⟨bh, 0, none⟩) t S HMAY.out hn HI.out _ (hc' _ _)).mono ?_
  rintro e w1 ⟨rfl, b1⟩
  have hz := b1.size
  simp at hz
  have hz0 : w.heap.size + 1 < w1.heap.size := by omega
  have hrow4 : rowAt w1 (w.heap.size + 1) 35 [.int .i64 0, .int .i64 0, .slice none 0 0, .string ⟨#[]⟩] := (rowAt.made_at (w := w.alloc (.cells #[.int .i64 first, .slice (some ⟨bw, 0, none⟩) n n, .slice (some ⟨bh, 0, none⟩) n n] 73)) 35 [.int .i64 0, .int .i64 0, .slice none 0 0, .string ⟨#[]⟩] (by simp)).below b1 (by simp)
  have HB1 : Hid (Below w.heap.size w w1) := by
    show Below _ _ _
    repeat (first | exact Below.refl _ _ | refine bl_alloc ?_ _ | refine bl_drew ?_ | refine bl_call ?_ b1)
  clear b1 hc'
  simp only [kindV, if_true, if_false, reduceIte, Int.reduceEq]
  rw [HBO.out]
  simp only [longH, if_true, if_false, reduceIte, Int.reduceEq]
  rw [← HXL.out]
  have HCL : Hid (∀ W' : World, Below w.heap.size w W' → ∀ j u, (wordsL xs)[j]? = some u → W'.cell? ⟨bw, i + 1 + j, none⟩ = some u) := by
    intro W' hb j u hj
    have h1 := HXR.out j u hj
    exact (hb.cell (p := ⟨bw, i + 1 + j, none⟩) (World.block_lt_of_cell? w _ h1)).trans h1
  go_wp2_with fail
  obtain ⟨W, hW⟩ : ∃ W, W = w1.alloc (.cells #[.int .i64 2, .int .i64 t, .int .i64 S] 66) := ⟨_, rfl⟩
  rw [← hW]
  have r5 : rowAt W w1.heap.size 66 [.int .i64 2, .int .i64 t, .int .i64 S] := by rw [hW]; exact rowAt.made w1 _ _
  have r4 : rowAt W (w.heap.size + 1) 35 [.int .i64 0, .int .i64 0, .slice none 0 0, .string ⟨#[]⟩] := by rw [hW]; exact hrow4.alloc _
  have HBW : Hid (Below w.heap.size w W) := by rw [hW]; exact bl_alloc HB1.out _
  have hsW : w1.heap.size < W.heap.size := by rw [hW]; simp
  have d0 : W.cell? ⟨w1.heap.size, 0, none⟩ = some (.int .i64 2) := (r5.cell 0).trans rfl
  have d1 : W.cell? ⟨w1.heap.size, 1, none⟩ = some (.int .i64 t) := (r5.cell 1).trans rfl
  have d2 : W.cell? ⟨w1.heap.size, 2, none⟩ = some (.int .i64 S) := (r5.cell 2).trans rfl
  have R5 := Lib.hid r5
  have R4 := Lib.hid r4
  have HTH : Hid (∀ W' : World, Below W.heap.size W W' → W'.cell? ⟨w1.heap.size, 0, none⟩ = some (.int .i64 2) ∧ W'.cell? ⟨w1.heap.size, 1, none⟩ = some (.int .i64 t) ∧ W'.cell? ⟨w1.heap.size, 2, none⟩ = some (.int .i64 S)) := fun W' hb => ⟨((R5.out.below hb hsW).cell 0).trans rfl, ((R5.out.below hb hsW).cell 1).trans rfl, ((R5.out.below hb hsW).cell 2).trans rfl⟩
  have HFO : Hid (∀ W' : World, Below W.heap.size W W' → rowAt W' (w.heap.size + 1) 35 [.int .i64 0, .int .i64 0, .slice none 0 0, .string ⟨#[]⟩] ∧ w.heap.size + 1 < W'.heap.size) := fun W' hb => ⟨R4.out.below hb (by omega), by have := hb.size; omega⟩
  have ne1 : w1.heap.size ≠ w.heap.size + 1 := by omega
  clear hW hrow4 r5 r4
  go_region_held3 (fun w' => w'.cell? ⟨w1.heap.size, 0, none⟩ = some (.int .i64 2) ∧ w'.cell? ⟨w1.heap.size, 1, none⟩ = some (.int .i64 t) ∧ w'.cell? ⟨w1.heap.size, 2, none⟩ = some (.int .i64 S)) (first | exact ⟨d0, d1, d2⟩ | exact ⟨y0, y1, y2⟩ | (refine ⟨?_, ?_, ?_⟩ <;> simp [go_sem, y0, y1, y2, ne1]))
    (first
      | ((with_reducible refine (sfields_any _ _ _ _).mono ?_)
         rintro e w3 ⟨rfl, b3⟩
         have b3' : Below W.heap.size W w3 := bl_call (by first | exact HB5.out | exact bl_drew (Below.refl _ _)) b3
         obtain ⟨y0, y1, y2⟩ := HTH.out _ b3'
         have HB3 := Lib.hid b3'
         obtain ⟨r43, hs43⟩ := HFO.out _ b3'
         have z0 := r43.cell 0
         have z1 := r43.cell 1
         have z2 := r43.cell 2
         have z3 := r43.cell 3
         have f0 := r43.free 0
         have f1 := r43.free 1
         have f2 := r43.free 2
         have f3 := r43.free 3
         simp only [List.getElem?_cons_zero, List.getElem?_cons_succ] at z0 z1 z2 z3
         clear r43 b3 b3' )
      | ((with_reducible refine (clone_none _).mono ?_)
         rintro e w4 ⟨ca, cc, rfl, ho4, b4⟩
         have b4' : Below W.heap.size W w4 := bl_call (by first | exact HB5.out | exact HB3.out) b4
         have HO4 : Hid (w4.ownsRow W.heap.size 39 1 (.slice ca 0 cc) 0 (([] : List Value))) := owns_base ho4 fun g hg => by
           have h1 := (ho4.lt g hg).1
           have h3 : W.heap.size ≤ _ := (by first | exact HB5.out.size | exact HB3.out.size)
           exact Nat.le_trans h3 h1
         clear ho4
         obtain ⟨y0, y1, y2⟩ := HTH.out _ b4'
         have HB4 := Lib.hid b4'
         obtain ⟨r43, hs43⟩ := HFO.out _ b4'
         have z0 := r43.cell 0
         have z1 := r43.cell 1
         have z2 := r43.cell 2
         have z3 := r43.cell 3
         have f0 := r43.free 0
         have f1 := r43.free 1
         have f2 := r43.free 2
         have f3 := r43.free 3
         simp only [List.getElem?_cons_zero, List.getElem?_cons_succ] at z0 z1 z2 z3
         clear r43 b4 b4' )
      | ((with_reducible refine (text_str S bw (i + 1) _ xs HXL.out _ (by omega) HXF.out (HCL.out _ (bl_call HBW.out (by first | exact HB4.out | exact HB3.out | exact HB5.out | exact bl_drew (Below.refl _ _))))).mono ?_)
         rintro e w5 ⟨rfl, b5⟩
         have b5' : Below W.heap.size W w5 := bl_call (by first | exact HB4.out | exact HB3.out | exact bl_drew (Below.refl _ _)) b5
         try have HB5b := Lib.hid b5
         obtain ⟨y0, y1, y2⟩ := HTH.out _ b5'
         have HB5 := Lib.hid b5'
         obtain ⟨r43, hs43⟩ := HFO.out _ b5'
         have z0 := r43.cell 0
         have z1 := r43.cell 1
         have z2 := r43.cell 2
         have z3 := r43.cell 3
         have f0 := r43.free 0
         have f1 := r43.free 1
         have f2 := r43.free 2
         have f3 := r43.free 3
         simp only [List.getElem?_cons_zero, List.getElem?_cons_succ] at z0 z1 z2 z3
         clear r43 b5 b5' ))
  all_goals
    go_wp2
    refine bodyPost_ret (v := obj 2 t ca 0 cc ⟨(unpack xs S).toArray⟩) (by simp [results, Try.results37, go_sem, z0, z1, z2, z3]) rfl ⟨ca, cc, rfl, ?_, ?_⟩
    · refine owns_base (B := W.heap.size) ?_ fun g hg => ?_
      · repeat (first | exact HO4.out | exact owns_below HO4.out HB5b.out (fun g hg => (HO4.out.lt g hg).2) | refine owns_drew ?_ | refine owns_set ?_ _ _ (by simp; omega))
      · exact Nat.le_trans HBW.out.size (HO4.out.lt g hg).1
    · repeat (first | exact Below.refl _ _ | refine bl_alloc ?_ _ | refine bl_drewN ?_ _ | refine bl_drew ?_ | refine bl_set ?_ (by simp) _ | exact bl_call HBW.out HB5.out | exact bl_call HBW.out HB4.out)

end Go.Proofs.Ytnjpjhlodamanaa
