/-
  An object of a heap that was looked at ('at').
  Conditions: as each states.
-/
import Derived.Test.YtnjpjhlodamanaaObD
import Derived.Test.YtnjpjhlodamanaaObH
import Derived.Deep.RegionHeld3
import Derived.IntWalk
namespace Go.Proofs.Ytnjpjhlodamanaa
open Go.ChangeShapes Go.WideShapes Go.ChangeAt Go.RowKit
set_option linter.unusedVariables false
set_option linter.unusedSimpArgs false
set_option maxRecDepth 100000

/-- The slice of the words behind the head that stands at i. -/
def bodyA (bw i n : Nat) : Option Addr := if n = i + 1 then some ⟨bw, 0, none⟩ else some ⟨bw, i + 1, none⟩

set_option maxHeartbeats 2000000 in
theorem at_2 (first : Int) (bw i n : Nat) (ah : Option Addr) (t : Int) (S : Nat) (hmay : mayH 2 t S = true) (hn : n ≤ 2000) (hi : i + 1 + longH 2 S ≤ n) (w : World) (hc : w.cell? ⟨bw, i, none⟩ = some (.int .u64 (headW 2 t S))) :
    Calls Try.prog 51 #[viewV first (some ⟨bw, 0, none⟩) ah n n, .int .i64 (i : Int)] w fun e w' => e = .returned (.tuple #[hd 2 t S, kindV 2, .slice (bodyA bw i n) (longH 2 S) (n - (i + 1))]) ∧ Below w.heap.size w w' := by
  obtain ⟨p1, p2, p3, p4⟩ := head_parts hmay
  have ha := apart_any (headW 2 t S) p4
  rw [p1, p2, p3] at ha
  have hbd := mayH_bounds hmay
  have hS4 : S ≤ 400 := by omega
  clear p1 p2 p3 p4 hbd hmay
  generalize headW 2 t S = X at *
  have HA := Lib.hid ha
  clear ha
  have hbw : bw < w.heap.size := World.block_lt_of_cell? w _ hc
  simp only [longH, reduceIte, Int.reduceEq] at hi ⊢
  obtain ⟨L, hL⟩ : ∃ L : Nat, L = (S + 7) / 8 := ⟨_, rfl⟩
  have hlc := long_s S (by omega)
  rw [← hL] at hlc hi
  have HLC := Lib.hid hlc
  have HLL := Lib.hid hL
  clear hlc hL
  have m1 : IntKind.i64.wrap ((i : Int) + 1) = (i : Int) + 1 := by rw [IntKind.wrap_i64]; omega
  have m2 : 0 ≤ (i : Int) + 1 := by omega
  have m3 : ((i : Int) + 1).toNat = i + 1 := by omega
  have m4 : IntKind.i64.wrap ((i : Int) + 1 + (L : Int)) = (i : Int) + 1 + (L : Int) := by rw [IntKind.wrap_i64]; omega
  have m5 : 0 ≤ (i : Int) + 1 + (L : Int) := by omega
  have m6 : ((i : Int) + 1 + (L : Int)).toNat = i + 1 + L := by omega
  have m7 : (i : Int) + 1 + (L : Int) ≤ (n : Int) := by omega
  have m8 : (i : Int) + 1 ≤ (i : Int) + 1 + (L : Int) := by omega
  have ht : (if n = i + 1 then some (⟨bw, 0, none⟩ : Addr) else some ⟨bw, i + 1, none⟩) = bodyA bw i n := rfl
  have M1 := Lib.hid (And.intro m1 (And.intro m3 (And.intro m4 (And.intro m6 ht))))
  clear m1 m3 m4 m6 ht
  go_enter Try.func51, Try.ntmps51
  go_wp2_with fail
  refine (HA.out _).mono ?_
  rintro e w1 ⟨rfl, b1⟩
  obtain ⟨hc1, hf1⟩ := bcell b1
  have hz := b1.size
  simp at hz
  go_wp2_with fail
  refine (kindOf_any _ _).mono ?_
  rintro e w2 ⟨rfl, rfl⟩
  simp only [kindV, if_true, if_false, reduceIte, Int.reduceEq]
  have hz0 : w.heap.size < w1.heap.size := by omega
  have hz1 : w.heap.size + 1 < w1.heap.size := by omega
  have hslice : w1.cell? ⟨w.heap.size, 1, none⟩ = some (.slice (some ⟨bw, 0, none⟩) n n) := by rw [hc1 _ _ (by simp; omega)]; simp [go_sem]
  have hrow4 : rowAt w1 (w.heap.size + 1) 66 [.int .i64 0, .int .i64 0, .int .i64 0] := (rowAt.made_at (w := w.alloc (.cells #[.int .i64 first, .slice (some ⟨bw, 0, none⟩) n n, .slice ah n n] 73)) 66 [.int .i64 0, .int .i64 0, .int .i64 0] (by simp)).below b1 (by simp)
  have HB1 : Hid (Below w.heap.size w w1) := by
    show Below _ _ _
    repeat (first | exact Below.refl _ _ | refine bl_alloc ?_ _ | refine bl_drew ?_ | refine bl_call ?_ b1)
  clear hc1 hf1 b1
  go_wp2_with fail
  obtain ⟨W, hW⟩ : ∃ W, W = w1.alloc (.cells #[.int .i64 2, .int .i64 t, .int .i64 S] 66) := ⟨_, rfl⟩
  rw [← hW]
  have r7 : rowAt W w1.heap.size 66 [.int .i64 2, .int .i64 t, .int .i64 S] := by rw [hW]; exact rowAt.made w1 _ _
  have r4 : rowAt W (w.heap.size + 1) 66 [.int .i64 0, .int .i64 0, .int .i64 0] := by rw [hW]; exact hrow4.alloc _
  have d3 : W.cell? ⟨w.heap.size, 1, none⟩ = some (.slice (some ⟨bw, 0, none⟩) n n) := by rw [hW, World.cell?_alloc_lt _ _ _ (by simpa using hz0)]; exact hslice
  have HBW : Hid (Below w.heap.size w W) := by rw [hW]; exact bl_alloc HB1.out _
  have hsW : w1.heap.size < W.heap.size := by rw [hW]; simp
  have d0 : W.cell? ⟨w1.heap.size, 0, none⟩ = some (.int .i64 2) := (r7.cell 0).trans rfl
  have d1 : W.cell? ⟨w1.heap.size, 1, none⟩ = some (.int .i64 t) := (r7.cell 1).trans rfl
  have d2 : W.cell? ⟨w1.heap.size, 2, none⟩ = some (.int .i64 S) := (r7.cell 2).trans rfl
  have R7 := Lib.hid r7
  have R4 := Lib.hid r4
  have D3 := Lib.hid d3
  obtain ⟨m1, m3, m4, m6, ht⟩ := M1.out
  clear hW hrow4 hslice r7 r4
  go_region_held3 (fun w' => w'.cell? ⟨w1.heap.size, 0, none⟩ = some (.int .i64 2) ∧ w'.cell? ⟨w1.heap.size, 1, none⟩ = some (.int .i64 t) ∧ w'.cell? ⟨w1.heap.size, 2, none⟩ = some (.int .i64 S) ∧ w'.cell? ⟨w.heap.size, 1, none⟩ = some (.slice (some ⟨bw, 0, none⟩) n n)) (first | exact ⟨d0, d1, d2, d3⟩ | exact ⟨y0, y1, y2, y3⟩ | (refine ⟨?_, ?_, ?_, ?_⟩ <;> simp [go_sem, y0, y1, y2, y3, ne1]))
    ((refine (HLC.out _).mono ?_
      rintro e w3 ⟨rfl, b3⟩
      have b3' : Below W.heap.size W w3 := bl_call (bl_drew (Below.refl _ _)) b3
      have hs3 := b3'.size
      have r73 := R7.out.below b3' hsW
      have R43 := Lib.hid (R4.out.below b3' (by omega))
      have y0 : w3.cell? ⟨w1.heap.size, 0, none⟩ = some (.int .i64 2) := (r73.cell 0).trans rfl
      have y1 : w3.cell? ⟨w1.heap.size, 1, none⟩ = some (.int .i64 t) := (r73.cell 1).trans rfl
      have y2 : w3.cell? ⟨w1.heap.size, 2, none⟩ = some (.int .i64 S) := (r73.cell 2).trans rfl
      have y3 : w3.cell? ⟨w.heap.size, 1, none⟩ = some (.slice (some ⟨bw, 0, none⟩) n n) := (b3'.cell (p := ⟨w.heap.size, 1, none⟩) (by show w.heap.size < W.heap.size; omega)).trans D3.out
      have r43 := R43.out
      have z0 : w3.cell? ⟨w.heap.size + 1, 0, none⟩ = some (.int .i64 0) := (r43.cell 0).trans rfl
      have z1 : w3.cell? ⟨w.heap.size + 1, 1, none⟩ = some (.int .i64 0) := (r43.cell 1).trans rfl
      have z2 : w3.cell? ⟨w.heap.size + 1, 2, none⟩ = some (.int .i64 0) := (r43.cell 2).trans rfl
      have f0 : w3.frozen? ⟨w.heap.size + 1, 0, none⟩ = false := r43.free 0
      have f1 : w3.frozen? ⟨w.heap.size + 1, 1, none⟩ = false := r43.free 1
      have f2 : w3.frozen? ⟨w.heap.size + 1, 2, none⟩ = false := r43.free 2
      have ne1 : w1.heap.size ≠ w.heap.size + 1 := by omega
      have hs31 : w.heap.size + 1 < w3.heap.size := by omega
      clear r73 r43 b3))
  go_wp2
  refine bodyPost_ret (v := .tuple #[hd 2 t S, kindV 2, .slice (bodyA bw i n) L (n - (i + 1))]) (by simp [results, Try.results51, go_sem, kindV, z0, z1, z2]) rfl ⟨by rw [← HLL.out], ?_⟩
  repeat (first | exact Below.refl _ _ | refine bl_alloc ?_ _ | refine bl_drewN ?_ _ | refine bl_drew ?_ | refine bl_set ?_ (by simp) _ | exact bl_call HBW.out b3')

set_option maxHeartbeats 2000000 in
theorem at_1 (first : Int) (bw i n : Nat) (ah : Option Addr) (t : Int) (S : Nat) (hmay : mayH 1 t S = true) (hn : n ≤ 2000) (hi : i + 1 + longH 1 S ≤ n) (w : World) (hc : w.cell? ⟨bw, i, none⟩ = some (.int .u64 (headW 1 t S))) :
    Calls Try.prog 51 #[viewV first (some ⟨bw, 0, none⟩) ah n n, .int .i64 (i : Int)] w fun e w' => e = .returned (.tuple #[hd 1 t S, kindV 1, .slice (bodyA bw i n) (longH 1 S) (n - (i + 1))]) ∧ Below w.heap.size w w' := by
  obtain ⟨p1, p2, p3, p4⟩ := head_parts hmay
  have ha := apart_any (headW 1 t S) p4
  rw [p1, p2, p3] at ha
  have hbd := mayH_bounds hmay
  have hS4 : S ≤ 400 := by omega
  clear p1 p2 p3 p4 hbd hmay
  generalize headW 1 t S = X at *
  have HA := Lib.hid ha
  clear ha
  have hbw : bw < w.heap.size := World.block_lt_of_cell? w _ hc
  simp only [longH, reduceIte, Int.reduceEq] at hi ⊢
  have m1 : IntKind.i64.wrap ((i : Int) + 1) = (i : Int) + 1 := by rw [IntKind.wrap_i64]; omega
  have m2 : 0 ≤ (i : Int) + 1 := by omega
  have m3 : ((i : Int) + 1).toNat = i + 1 := by omega
  have m4 : IntKind.i64.wrap ((i : Int) + 1 + (S : Int)) = (i : Int) + 1 + (S : Int) := by rw [IntKind.wrap_i64]; omega
  have m5 : 0 ≤ (i : Int) + 1 + (S : Int) := by omega
  have m6 : ((i : Int) + 1 + (S : Int)).toNat = i + 1 + S := by omega
  have m7 : (i : Int) + 1 + (S : Int) ≤ (n : Int) := by omega
  have m8 : (i : Int) + 1 ≤ (i : Int) + 1 + (S : Int) := by omega
  have ht : (if n = i + 1 then some (⟨bw, 0, none⟩ : Addr) else some ⟨bw, i + 1, none⟩) = bodyA bw i n := rfl
  have M1 := Lib.hid (And.intro m1 (And.intro m3 (And.intro m4 (And.intro m6 ht))))
  clear m1 m3 m4 m6 ht
  go_enter Try.func51, Try.ntmps51
  go_wp2_with fail
  refine (HA.out _).mono ?_
  rintro e w1 ⟨rfl, b1⟩
  obtain ⟨hc1, hf1⟩ := bcell b1
  have hz := b1.size
  simp at hz
  go_wp2_with fail
  refine (kindOf_any _ _).mono ?_
  rintro e w2 ⟨rfl, rfl⟩
  simp only [kindV, if_true, if_false, reduceIte, Int.reduceEq]
  have hz0 : w.heap.size < w1.heap.size := by omega
  have hz1 : w.heap.size + 1 < w1.heap.size := by omega
  have hslice : w1.cell? ⟨w.heap.size, 1, none⟩ = some (.slice (some ⟨bw, 0, none⟩) n n) := by rw [hc1 _ _ (by simp; omega)]; simp [go_sem]
  have hrow4 : rowAt w1 (w.heap.size + 1) 66 [.int .i64 0, .int .i64 0, .int .i64 0] := (rowAt.made_at (w := w.alloc (.cells #[.int .i64 first, .slice (some ⟨bw, 0, none⟩) n n, .slice ah n n] 73)) 66 [.int .i64 0, .int .i64 0, .int .i64 0] (by simp)).below b1 (by simp)
  have HB1 : Hid (Below w.heap.size w w1) := by
    show Below _ _ _
    repeat (first | exact Below.refl _ _ | refine bl_alloc ?_ _ | refine bl_drew ?_ | refine bl_call ?_ b1)
  clear hc1 hf1 b1
  go_wp2_with fail
  obtain ⟨W, hW⟩ : ∃ W, W = w1.alloc (.cells #[.int .i64 1, .int .i64 t, .int .i64 S] 66) := ⟨_, rfl⟩
  rw [← hW]
  have r7 : rowAt W w1.heap.size 66 [.int .i64 1, .int .i64 t, .int .i64 S] := by rw [hW]; exact rowAt.made w1 _ _
  have r4 : rowAt W (w.heap.size + 1) 66 [.int .i64 0, .int .i64 0, .int .i64 0] := by rw [hW]; exact hrow4.alloc _
  have d3 : W.cell? ⟨w.heap.size, 1, none⟩ = some (.slice (some ⟨bw, 0, none⟩) n n) := by rw [hW, World.cell?_alloc_lt _ _ _ (by simpa using hz0)]; exact hslice
  have HBW : Hid (Below w.heap.size w W) := by rw [hW]; exact bl_alloc HB1.out _
  have hsW : w1.heap.size < W.heap.size := by rw [hW]; simp
  have d0 : W.cell? ⟨w1.heap.size, 0, none⟩ = some (.int .i64 1) := (r7.cell 0).trans rfl
  have d1 : W.cell? ⟨w1.heap.size, 1, none⟩ = some (.int .i64 t) := (r7.cell 1).trans rfl
  have d2 : W.cell? ⟨w1.heap.size, 2, none⟩ = some (.int .i64 S) := (r7.cell 2).trans rfl
  have R7 := Lib.hid r7
  have R4 := Lib.hid r4
  have D3 := Lib.hid d3
  obtain ⟨m1, m3, m4, m6, ht⟩ := M1.out
  clear hW hrow4 hslice r7 r4
  go_region_held3 (fun w' => w'.cell? ⟨w1.heap.size, 0, none⟩ = some (.int .i64 1) ∧ w'.cell? ⟨w1.heap.size, 1, none⟩ = some (.int .i64 t) ∧ w'.cell? ⟨w1.heap.size, 2, none⟩ = some (.int .i64 S) ∧ w'.cell? ⟨w.heap.size, 1, none⟩ = some (.slice (some ⟨bw, 0, none⟩) n n)) (first | exact ⟨d0, d1, d2, d3⟩ | exact ⟨y0, y1, y2, y3⟩ | (refine ⟨?_, ?_, ?_, ?_⟩ <;> simp [go_sem, y0, y1, y2, y3, ne1]))
    ((refine (long_f S _).mono ?_
      rintro e w3 ⟨rfl, b3⟩
      have b3' : Below W.heap.size W w3 := bl_call (bl_drew (Below.refl _ _)) b3
      have hs3 := b3'.size
      have r73 := R7.out.below b3' hsW
      have R43 := Lib.hid (R4.out.below b3' (by omega))
      have y0 : w3.cell? ⟨w1.heap.size, 0, none⟩ = some (.int .i64 1) := (r73.cell 0).trans rfl
      have y1 : w3.cell? ⟨w1.heap.size, 1, none⟩ = some (.int .i64 t) := (r73.cell 1).trans rfl
      have y2 : w3.cell? ⟨w1.heap.size, 2, none⟩ = some (.int .i64 S) := (r73.cell 2).trans rfl
      have y3 : w3.cell? ⟨w.heap.size, 1, none⟩ = some (.slice (some ⟨bw, 0, none⟩) n n) := (b3'.cell (p := ⟨w.heap.size, 1, none⟩) (by show w.heap.size < W.heap.size; omega)).trans D3.out
      have r43 := R43.out
      have z0 : w3.cell? ⟨w.heap.size + 1, 0, none⟩ = some (.int .i64 0) := (r43.cell 0).trans rfl
      have z1 : w3.cell? ⟨w.heap.size + 1, 1, none⟩ = some (.int .i64 0) := (r43.cell 1).trans rfl
      have z2 : w3.cell? ⟨w.heap.size + 1, 2, none⟩ = some (.int .i64 0) := (r43.cell 2).trans rfl
      have f0 : w3.frozen? ⟨w.heap.size + 1, 0, none⟩ = false := r43.free 0
      have f1 : w3.frozen? ⟨w.heap.size + 1, 1, none⟩ = false := r43.free 1
      have f2 : w3.frozen? ⟨w.heap.size + 1, 2, none⟩ = false := r43.free 2
      have ne1 : w1.heap.size ≠ w.heap.size + 1 := by omega
      have hs31 : w.heap.size + 1 < w3.heap.size := by omega
      clear r73 r43 b3))
  go_wp2
  refine bodyPost_ret (v := .tuple #[hd 1 t S, kindV 1, .slice (bodyA bw i n) S (n - (i + 1))]) (by simp [results, Try.results51, go_sem, kindV, z0, z1, z2]) rfl ⟨rfl, ?_⟩
  repeat (first | exact Below.refl _ _ | refine bl_alloc ?_ _ | refine bl_drewN ?_ _ | refine bl_drew ?_ | refine bl_set ?_ (by simp) _ | exact bl_call HBW.out b3')

set_option maxHeartbeats 2000000 in
theorem at_3 (first : Int) (bw i n : Nat) (ah : Option Addr) (t : Int) (S : Nat) (hmay : mayH 3 t S = true) (hn : n ≤ 2000) (hi : i + 1 + longH 3 S ≤ n) (w : World) (hc : w.cell? ⟨bw, i, none⟩ = some (.int .u64 (headW 3 t S))) :
    Calls Try.prog 51 #[viewV first (some ⟨bw, 0, none⟩) ah n n, .int .i64 (i : Int)] w fun e w' => e = .returned (.tuple #[hd 3 t S, kindV 3, .slice (bodyA bw i n) (longH 3 S) (n - (i + 1))]) ∧ Below w.heap.size w w' := by
  obtain ⟨p1, p2, p3, p4⟩ := head_parts hmay
  have ha := apart_any (headW 3 t S) p4
  rw [p1, p2, p3] at ha
  have hbd := mayH_bounds hmay
  have hS4 : S ≤ 400 := by omega
  clear p1 p2 p3 p4 hbd hmay
  generalize headW 3 t S = X at *
  have HA := Lib.hid ha
  clear ha
  have hbw : bw < w.heap.size := World.block_lt_of_cell? w _ hc
  simp only [longH, reduceIte, Int.reduceEq] at hi ⊢
  have m1 : IntKind.i64.wrap ((i : Int) + 1) = (i : Int) + 1 := by rw [IntKind.wrap_i64]; omega
  have m2 : 0 ≤ (i : Int) + 1 := by omega
  have m3 : ((i : Int) + 1).toNat = i + 1 := by omega
  have m4 : IntKind.i64.wrap ((i : Int) + 1 + (S : Int)) = (i : Int) + 1 + (S : Int) := by rw [IntKind.wrap_i64]; omega
  have m5 : 0 ≤ (i : Int) + 1 + (S : Int) := by omega
  have m6 : ((i : Int) + 1 + (S : Int)).toNat = i + 1 + S := by omega
  have m7 : (i : Int) + 1 + (S : Int) ≤ (n : Int) := by omega
  have m8 : (i : Int) + 1 ≤ (i : Int) + 1 + (S : Int) := by omega
  have ht : (if n = i + 1 then some (⟨bw, 0, none⟩ : Addr) else some ⟨bw, i + 1, none⟩) = bodyA bw i n := rfl
  have M1 := Lib.hid (And.intro m1 (And.intro m3 (And.intro m4 (And.intro m6 ht))))
  clear m1 m3 m4 m6 ht
  go_enter Try.func51, Try.ntmps51
  go_wp2_with fail
  refine (HA.out _).mono ?_
  rintro e w1 ⟨rfl, b1⟩
  obtain ⟨hc1, hf1⟩ := bcell b1
  have hz := b1.size
  simp at hz
  go_wp2_with fail
  refine (kindOf_any _ _).mono ?_
  rintro e w2 ⟨rfl, rfl⟩
  simp only [kindV, if_true, if_false, reduceIte, Int.reduceEq]
  have hz0 : w.heap.size < w1.heap.size := by omega
  have hz1 : w.heap.size + 1 < w1.heap.size := by omega
  have hslice : w1.cell? ⟨w.heap.size, 1, none⟩ = some (.slice (some ⟨bw, 0, none⟩) n n) := by rw [hc1 _ _ (by simp; omega)]; simp [go_sem]
  have hrow4 : rowAt w1 (w.heap.size + 1) 66 [.int .i64 0, .int .i64 0, .int .i64 0] := (rowAt.made_at (w := w.alloc (.cells #[.int .i64 first, .slice (some ⟨bw, 0, none⟩) n n, .slice ah n n] 73)) 66 [.int .i64 0, .int .i64 0, .int .i64 0] (by simp)).below b1 (by simp)
  have HB1 : Hid (Below w.heap.size w w1) := by
    show Below _ _ _
    repeat (first | exact Below.refl _ _ | refine bl_alloc ?_ _ | refine bl_drew ?_ | refine bl_call ?_ b1)
  clear hc1 hf1 b1
  go_wp2_with fail
  obtain ⟨W, hW⟩ : ∃ W, W = w1.alloc (.cells #[.int .i64 3, .int .i64 t, .int .i64 S] 66) := ⟨_, rfl⟩
  rw [← hW]
  have r7 : rowAt W w1.heap.size 66 [.int .i64 3, .int .i64 t, .int .i64 S] := by rw [hW]; exact rowAt.made w1 _ _
  have r4 : rowAt W (w.heap.size + 1) 66 [.int .i64 0, .int .i64 0, .int .i64 0] := by rw [hW]; exact hrow4.alloc _
  have d3 : W.cell? ⟨w.heap.size, 1, none⟩ = some (.slice (some ⟨bw, 0, none⟩) n n) := by rw [hW, World.cell?_alloc_lt _ _ _ (by simpa using hz0)]; exact hslice
  have HBW : Hid (Below w.heap.size w W) := by rw [hW]; exact bl_alloc HB1.out _
  have hsW : w1.heap.size < W.heap.size := by rw [hW]; simp
  have d0 : W.cell? ⟨w1.heap.size, 0, none⟩ = some (.int .i64 3) := (r7.cell 0).trans rfl
  have d1 : W.cell? ⟨w1.heap.size, 1, none⟩ = some (.int .i64 t) := (r7.cell 1).trans rfl
  have d2 : W.cell? ⟨w1.heap.size, 2, none⟩ = some (.int .i64 S) := (r7.cell 2).trans rfl
  have R7 := Lib.hid r7
  have R4 := Lib.hid r4
  have D3 := Lib.hid d3
  obtain ⟨m1, m3, m4, m6, ht⟩ := M1.out
  clear hW hrow4 hslice r7 r4
  go_region_held3 (fun w' => w'.cell? ⟨w1.heap.size, 0, none⟩ = some (.int .i64 3) ∧ w'.cell? ⟨w1.heap.size, 1, none⟩ = some (.int .i64 t) ∧ w'.cell? ⟨w1.heap.size, 2, none⟩ = some (.int .i64 S) ∧ w'.cell? ⟨w.heap.size, 1, none⟩ = some (.slice (some ⟨bw, 0, none⟩) n n)) (first | exact ⟨d0, d1, d2, d3⟩ | exact ⟨y0, y1, y2, y3⟩ | (refine ⟨?_, ?_, ?_, ?_⟩ <;> simp [go_sem, y0, y1, y2, y3, ne1]))
    ((refine (long_f S _).mono ?_
      rintro e w3 ⟨rfl, b3⟩
      have b3' : Below W.heap.size W w3 := bl_call (bl_drew (Below.refl _ _)) b3
      have hs3 := b3'.size
      have r73 := R7.out.below b3' hsW
      have R43 := Lib.hid (R4.out.below b3' (by omega))
      have y0 : w3.cell? ⟨w1.heap.size, 0, none⟩ = some (.int .i64 3) := (r73.cell 0).trans rfl
      have y1 : w3.cell? ⟨w1.heap.size, 1, none⟩ = some (.int .i64 t) := (r73.cell 1).trans rfl
      have y2 : w3.cell? ⟨w1.heap.size, 2, none⟩ = some (.int .i64 S) := (r73.cell 2).trans rfl
      have y3 : w3.cell? ⟨w.heap.size, 1, none⟩ = some (.slice (some ⟨bw, 0, none⟩) n n) := (b3'.cell (p := ⟨w.heap.size, 1, none⟩) (by show w.heap.size < W.heap.size; omega)).trans D3.out
      have r43 := R43.out
      have z0 : w3.cell? ⟨w.heap.size + 1, 0, none⟩ = some (.int .i64 0) := (r43.cell 0).trans rfl
      have z1 : w3.cell? ⟨w.heap.size + 1, 1, none⟩ = some (.int .i64 0) := (r43.cell 1).trans rfl
      have z2 : w3.cell? ⟨w.heap.size + 1, 2, none⟩ = some (.int .i64 0) := (r43.cell 2).trans rfl
      have f0 : w3.frozen? ⟨w.heap.size + 1, 0, none⟩ = false := r43.free 0
      have f1 : w3.frozen? ⟨w.heap.size + 1, 1, none⟩ = false := r43.free 1
      have f2 : w3.frozen? ⟨w.heap.size + 1, 2, none⟩ = false := r43.free 2
      have ne1 : w1.heap.size ≠ w.heap.size + 1 := by omega
      have hs31 : w.heap.size + 1 < w3.heap.size := by omega
      clear r73 r43 b3))
  go_wp2
  refine bodyPost_ret (v := .tuple #[hd 3 t S, kindV 3, .slice (bodyA bw i n) S (n - (i + 1))]) (by simp [results, Try.results51, go_sem, kindV, z0, z1, z2]) rfl ⟨rfl, ?_⟩
  repeat (first | exact Below.refl _ _ | refine bl_alloc ?_ _ | refine bl_drewN ?_ _ | refine bl_drew ?_ | refine bl_set ?_ (by simp) _ | exact bl_call HBW.out b3')

set_option maxHeartbeats 2000000 in
theorem at_4 (first : Int) (bw i n : Nat) (ah : Option Addr) (t : Int) (S : Nat) (hmay : mayH 4 t S = true) (hn : n ≤ 2000) (hi : i + 1 + longH 4 S ≤ n) (w : World) (hc : w.cell? ⟨bw, i, none⟩ = some (.int .u64 (headW 4 t S))) :
    Calls Try.prog 51 #[viewV first (some ⟨bw, 0, none⟩) ah n n, .int .i64 (i : Int)] w fun e w' => e = .returned (.tuple #[hd 4 t S, kindV 4, .slice (bodyA bw i n) (longH 4 S) (n - (i + 1))]) ∧ Below w.heap.size w w' := by
  obtain ⟨p1, p2, p3, p4⟩ := head_parts hmay
  have ha := apart_any (headW 4 t S) p4
  rw [p1, p2, p3] at ha
  have hbd := mayH_bounds hmay
  have hS4 : S ≤ 400 := by omega
  clear p1 p2 p3 p4 hbd hmay
  generalize headW 4 t S = X at *
  have HA := Lib.hid ha
  clear ha
  have hbw : bw < w.heap.size := World.block_lt_of_cell? w _ hc
  simp only [longH, reduceIte, Int.reduceEq] at hi ⊢
  have m1 : IntKind.i64.wrap ((i : Int) + 1) = (i : Int) + 1 := by rw [IntKind.wrap_i64]; omega
  have m2 : 0 ≤ (i : Int) + 1 := by omega
  have m3 : ((i : Int) + 1).toNat = i + 1 := by omega
  have m4 : IntKind.i64.wrap ((i : Int) + 1 + (S : Int)) = (i : Int) + 1 + (S : Int) := by rw [IntKind.wrap_i64]; omega
  have m5 : 0 ≤ (i : Int) + 1 + (S : Int) := by omega
  have m6 : ((i : Int) + 1 + (S : Int)).toNat = i + 1 + S := by omega
  have m7 : (i : Int) + 1 + (S : Int) ≤ (n : Int) := by omega
  have m8 : (i : Int) + 1 ≤ (i : Int) + 1 + (S : Int) := by omega
  have ht : (if n = i + 1 then some (⟨bw, 0, none⟩ : Addr) else some ⟨bw, i + 1, none⟩) = bodyA bw i n := rfl
  have M1 := Lib.hid (And.intro m1 (And.intro m3 (And.intro m4 (And.intro m6 ht))))
  clear m1 m3 m4 m6 ht
  go_enter Try.func51, Try.ntmps51
  go_wp2_with fail
  refine (HA.out _).mono ?_
  rintro e w1 ⟨rfl, b1⟩
  obtain ⟨hc1, hf1⟩ := bcell b1
  have hz := b1.size
  simp at hz
  go_wp2_with fail
  refine (kindOf_any _ _).mono ?_
  rintro e w2 ⟨rfl, rfl⟩
  simp only [kindV, if_true, if_false, reduceIte, Int.reduceEq]
  have hz0 : w.heap.size < w1.heap.size := by omega
  have hz1 : w.heap.size + 1 < w1.heap.size := by omega
  have hslice : w1.cell? ⟨w.heap.size, 1, none⟩ = some (.slice (some ⟨bw, 0, none⟩) n n) := by rw [hc1 _ _ (by simp; omega)]; simp [go_sem]
  have hrow4 : rowAt w1 (w.heap.size + 1) 66 [.int .i64 0, .int .i64 0, .int .i64 0] := (rowAt.made_at (w := w.alloc (.cells #[.int .i64 first, .slice (some ⟨bw, 0, none⟩) n n, .slice ah n n] 73)) 66 [.int .i64 0, .int .i64 0, .int .i64 0] (by simp)).below b1 (by simp)
  have HB1 : Hid (Below w.heap.size w w1) := by
    show Below _ _ _
    repeat (first | exact Below.refl _ _ | refine bl_alloc ?_ _ | refine bl_drew ?_ | refine bl_call ?_ b1)
  clear hc1 hf1 b1
  go_wp2_with fail
  obtain ⟨W, hW⟩ : ∃ W, W = w1.alloc (.cells #[.int .i64 4, .int .i64 t, .int .i64 S] 66) := ⟨_, rfl⟩
  rw [← hW]
  have r7 : rowAt W w1.heap.size 66 [.int .i64 4, .int .i64 t, .int .i64 S] := by rw [hW]; exact rowAt.made w1 _ _
  have r4 : rowAt W (w.heap.size + 1) 66 [.int .i64 0, .int .i64 0, .int .i64 0] := by rw [hW]; exact hrow4.alloc _
  have d3 : W.cell? ⟨w.heap.size, 1, none⟩ = some (.slice (some ⟨bw, 0, none⟩) n n) := by rw [hW, World.cell?_alloc_lt _ _ _ (by simpa using hz0)]; exact hslice
  have HBW : Hid (Below w.heap.size w W) := by rw [hW]; exact bl_alloc HB1.out _
  have hsW : w1.heap.size < W.heap.size := by rw [hW]; simp
  have d0 : W.cell? ⟨w1.heap.size, 0, none⟩ = some (.int .i64 4) := (r7.cell 0).trans rfl
  have d1 : W.cell? ⟨w1.heap.size, 1, none⟩ = some (.int .i64 t) := (r7.cell 1).trans rfl
  have d2 : W.cell? ⟨w1.heap.size, 2, none⟩ = some (.int .i64 S) := (r7.cell 2).trans rfl
  have R7 := Lib.hid r7
  have R4 := Lib.hid r4
  have D3 := Lib.hid d3
  obtain ⟨m1, m3, m4, m6, ht⟩ := M1.out
  clear hW hrow4 hslice r7 r4
  go_region_held3 (fun w' => w'.cell? ⟨w1.heap.size, 0, none⟩ = some (.int .i64 4) ∧ w'.cell? ⟨w1.heap.size, 1, none⟩ = some (.int .i64 t) ∧ w'.cell? ⟨w1.heap.size, 2, none⟩ = some (.int .i64 S) ∧ w'.cell? ⟨w.heap.size, 1, none⟩ = some (.slice (some ⟨bw, 0, none⟩) n n)) (first | exact ⟨d0, d1, d2, d3⟩ | exact ⟨y0, y1, y2, y3⟩ | (refine ⟨?_, ?_, ?_, ?_⟩ <;> simp [go_sem, y0, y1, y2, y3, ne1]))
    ((refine (long_f S _).mono ?_
      rintro e w3 ⟨rfl, b3⟩
      have b3' : Below W.heap.size W w3 := bl_call (bl_drew (Below.refl _ _)) b3
      have hs3 := b3'.size
      have r73 := R7.out.below b3' hsW
      have R43 := Lib.hid (R4.out.below b3' (by omega))
      have y0 : w3.cell? ⟨w1.heap.size, 0, none⟩ = some (.int .i64 4) := (r73.cell 0).trans rfl
      have y1 : w3.cell? ⟨w1.heap.size, 1, none⟩ = some (.int .i64 t) := (r73.cell 1).trans rfl
      have y2 : w3.cell? ⟨w1.heap.size, 2, none⟩ = some (.int .i64 S) := (r73.cell 2).trans rfl
      have y3 : w3.cell? ⟨w.heap.size, 1, none⟩ = some (.slice (some ⟨bw, 0, none⟩) n n) := (b3'.cell (p := ⟨w.heap.size, 1, none⟩) (by show w.heap.size < W.heap.size; omega)).trans D3.out
      have r43 := R43.out
      have z0 : w3.cell? ⟨w.heap.size + 1, 0, none⟩ = some (.int .i64 0) := (r43.cell 0).trans rfl
      have z1 : w3.cell? ⟨w.heap.size + 1, 1, none⟩ = some (.int .i64 0) := (r43.cell 1).trans rfl
      have z2 : w3.cell? ⟨w.heap.size + 1, 2, none⟩ = some (.int .i64 0) := (r43.cell 2).trans rfl
      have f0 : w3.frozen? ⟨w.heap.size + 1, 0, none⟩ = false := r43.free 0
      have f1 : w3.frozen? ⟨w.heap.size + 1, 1, none⟩ = false := r43.free 1
      have f2 : w3.frozen? ⟨w.heap.size + 1, 2, none⟩ = false := r43.free 2
      have ne1 : w1.heap.size ≠ w.heap.size + 1 := by omega
      have hs31 : w.heap.size + 1 < w3.heap.size := by omega
      clear r73 r43 b3))
  go_wp2
  refine bodyPost_ret (v := .tuple #[hd 4 t S, kindV 4, .slice (bodyA bw i n) S (n - (i + 1))]) (by simp [results, Try.results51, go_sem, kindV, z0, z1, z2]) rfl ⟨rfl, ?_⟩
  repeat (first | exact Below.refl _ _ | refine bl_alloc ?_ _ | refine bl_drewN ?_ _ | refine bl_drew ?_ | refine bl_set ?_ (by simp) _ | exact bl_call HBW.out b3')

end Go.Proofs.Ytnjpjhlodamanaa
