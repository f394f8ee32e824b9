/-
  The document's own example for package verify ('wakes').
  Conditions: as stated.
-/
import Derived.Test.YtlfbfnkmbceejaaDoorVeW
namespace Go.Proofs.YtlfbfnkmbceejaaDoor
open Go.ChangeShapes Go.WideShapes Go.ChangeAt Go.RowKit
set_option linter.unusedVariables false
set_option linter.unusedSimpArgs false
set_option maxRecDepth 100000

abbrev L8 : List PIns := [(33, 4, 0), (0, 7, 0), (34, 0, 0), (9, 0, 0), (36, 0, 0), (9, 0, 0)]
abbrev S8 : List PSt := [(0, 0), (0, 1), (1, 1), (1, 0), (1, 0), (1, 0)]
theorem p8_fit : prF P8 := by
  refine ⟨fun f hf => ?_, fun m hm => (by cases hm), fun s hs => (by cases hs), by decide, by decide, by decide⟩
  obtain rfl := List.mem_singleton.1 hf
  refine ⟨rfl, rfl, fun p hp => ?_, by decide⟩
  simp only [List.mem_cons, List.not_mem_nil, or_false] at hp
  rcases hp with rfl | rfl | rfl | rfl | rfl | rfl <;> exact ⟨rfl, rfl, rfl⟩
theorem p8b_fit : prF P8b := by
  refine ⟨fun f hf => ?_, fun m hm => (by cases hm), fun s hs => (by cases hs), by decide, by decide, by decide⟩
  obtain rfl := List.mem_singleton.1 hf
  refine ⟨rfl, rfl, fun p hp => ?_, by decide⟩
  simp only [List.mem_cons, List.not_mem_nil, or_false] at hp
  rcases hp with rfl
  exact ⟨rfl, rfl, rfl⟩
theorem st8_0 {S : Nat → Prop} {w : World} {v1 v2 v3 : Value} (hp : prAt S w v1 v2 v3 P8) (T : VeTab w) :
    Calls Tryd.prog 10 #[.agg #[v1, v2, v3], .int .i64 0] w fun e w' => ∃ g, e = .returned (.tuple #[.slice (some ⟨g, 0, none⟩) 6 6, .bool true]) ∧ rowAt w' g 47 (stL S8) ∧ Below w.heap.size w w' := by
  refine (states_any hp p8_fit T 0).mono ?_
  rintro e w' ⟨v, he, ho, hb⟩
  rw [p8_st] at he ho
  obtain ⟨g, hv, hr, -⟩ := ho
  exact ⟨g, by rw [he, hv]; rfl, hr, hb⟩
theorem st8_1 {S : Nat → Prop} {w : World} {v1 v2 v3 : Value} (hp : prAt S w v1 v2 v3 P8) (T : VeTab w) :
    Calls Tryd.prog 10 #[.agg #[v1, v2, v3], .int .i64 1] w fun e w' => e = .returned (.tuple #[.slice none 0 0, .bool false]) ∧ Below w.heap.size w w' := by
  refine (states_any hp p8_fit T 1).mono ?_
  rintro e w' ⟨v, he, ho, hb⟩
  rw [p8_no] at he ho
  have hv : v = .slice none 0 0 := ho
  exact ⟨by rw [he, hv]; rfl, hb⟩
theorem ch8 {S : Nat → Prop} {w : World} {v1 v2 v3 : Value} {P : PPr} {g r : Int} (h : checkP P g = r) (hp : prAt S w v1 v2 v3 P) (hF : prF P) (T : VeTab w) :
    Calls Tryd.prog 14 #[.agg #[v1, v2, v3], .int .i64 g] w fun e w' => e = .returned (.int .i64 r) ∧ Below w.heap.size w w' := h ▸ check_any hp hF T g
theorem ca8 {S : Nat → Prop} {w : World} {v1 v2 v3 : Value} {P : PPr} {r : Int} (h : callsX P = r) (hp : prAt S w v1 v2 v3 P) (hF : prF P) (T : VeTab w) :
    Calls Tryd.prog 17 #[.agg #[v1, v2, v3]] w fun e w' => e = .returned (.int .i64 r) ∧ Below w.heap.size w w' := h ▸ calls2_any hp hF T

set_option maxHeartbeats 8000000 in
theorem wakes_any (w : World) (T : VeTab w) : Calls Tryd.prog 8 #[] w fun e w' => e = .returned (.bool true) ∧ Below w.heap.size w w' := by
  obtain ⟨W, hW⟩ : ∃ W, w.alloc (.cells #[.int .i64 33, .int .i64 4, .int .i64 0, .int .i64 0, .int .i64 7, .int .i64 0, .int .i64 34, .int .i64 0, .int .i64 0, .int .i64 9, .int .i64 0, .int .i64 0, .int .i64 36, .int .i64 0, .int .i64 0, .int .i64 9, .int .i64 0, .int .i64 0] 49) = W := ⟨_, rfl⟩
  have BW := Lib.hid (show Below w.heap.size w W by rw [← hW]; exact down_alloc (Below.refl _ _) _)
  have rW : rowAt W w.heap.size 49 (insL L8) := by rw [← hW]; exact rowAt.made _ _ _
  have RV := Lib.hid (show rdAt (fun _ => False) W (.slice (some ⟨w.heap.size, 0, none⟩) 6 6) L8.length (insL L8) from
    ⟨_, _, rfl, .inr ⟨w.heap.size, 0, rfl, fun t => t, rW.lt, fun j u hj => by rw [rW.cell, Nat.zero_add]; exact hj⟩⟩)
  clear rW
  have HT := Lib.hid T
  clear T
  go_enter Tryd.func8, Tryd.ntmps8
  go_wp2_with fail
  clear hW
  refine (small8_any (l := L8) RV.out).mono ?_
  rintro e w1 ⟨a1, c1, rfl, hp, hb⟩
  have B1 := Lib.hid (down_call BW.out hb)
  go_wp2_with fail
  obtain ⟨W2, hW2⟩ : ∃ W, w1.alloc (.cells #[.slice a1 1 c1, .slice none 0 0, .slice none 0 0] 26) = W := ⟨_, rfl⟩
  have b2 : Below w1.heap.size w1 W2 := by rw [← hW2]; exact down_alloc (Below.refl _ _) _
  have R2 := Lib.hid (show rowAt W2 w1.heap.size 26 [.slice a1 1 c1, .slice none 0 0, .slice none 0 0] by rw [← hW2]; exact rowAt.made _ _ _)
  have B2 := Lib.hid (down_call B1.out b2)
  have P2 := Lib.hid (show prAt (fun _ => False) W2 (.slice a1 1 c1) (.slice none 0 0) (.slice none 0 0) P8 from hp.below b2)
  have x0 : W2.cell? ⟨w1.heap.size, 0, none⟩ = some (.slice a1 1 c1) := (R2.out.cell 0).trans rfl
  have x1 : W2.cell? ⟨w1.heap.size, 1, none⟩ = some (.slice none 0 0) := (R2.out.cell 1).trans rfl
  have x2 : W2.cell? ⟨w1.heap.size, 2, none⟩ = some (.slice none 0 0) := (R2.out.cell 2).trans rfl
  clear hp hb b2
  rw [hW2]
  refine (st8_0 P2.out (HT.out.below B2.out)).mono ?_
  rintro e w3 ⟨g, rfl, hr3, hb⟩
  clear hW2 x0 x1 x2
  have B3 := Lib.hid (down_call B2.out hb)
  have P3 := Lib.hid (P2.out.below hb)
  have R3 := Lib.hid (R2.out.below hb R2.out.lt)
  have Q3 := Lib.hid hr3
  have x0 : w3.cell? ⟨w1.heap.size, 0, none⟩ = some (.slice a1 1 c1) := (R3.out.cell 0).trans rfl
  have x1 : w3.cell? ⟨w1.heap.size, 1, none⟩ = some (.slice none 0 0) := (R3.out.cell 1).trans rfl
  have x2 : w3.cell? ⟨w1.heap.size, 2, none⟩ = some (.slice none 0 0) := (R3.out.cell 2).trans rfl
  clear hb hr3
  go_wp2_with fail
  refine (st8_1 P3.out (HT.out.below B3.out)).mono ?_
  rintro e w4 ⟨rfl, hb⟩
  have B4 := Lib.hid (down_call B3.out hb)
  have P4 := Lib.hid (P3.out.below hb)
  have R4 := Lib.hid (R3.out.below hb R3.out.lt)
  have Q4 := Lib.hid (Q3.out.below hb Q3.out.lt)
  clear hb x0 x1 x2
  obtain ⟨W5, hW5⟩ : ∃ W, w4.alloc (.cells #[.int .i64 0, .int .i64 0, .int .i64 0, .int .i64 1, .int .i64 1, .int .i64 1, .int .i64 1, .int .i64 0, .int .i64 1, .int .i64 0, .int .i64 1, .int .i64 0] 47) = W := ⟨_, rfl⟩
  have b5 : Below w4.heap.size w4 W5 := by rw [← hW5]; exact down_alloc (Below.refl _ _) _
  have r5 : rowAt W5 w4.heap.size 47 (stL S8) := by rw [← hW5]; exact rowAt.made _ _ _
  have B5 := Lib.hid (down_call B4.out b5)
  have P5 := Lib.hid (P4.out.below b5)
  have R5 := Lib.hid (R4.out.below b5 R4.out.lt)
  have U5 := Lib.hid (show rdAt (fun _ => False) W5 (.slice (some ⟨g, 0, none⟩) 6 6) S8.length (stL S8) from
    ⟨_, _, rfl, .inr ⟨g, 0, rfl, fun t => t, (Q4.out.below b5 Q4.out.lt).lt, fun j u hj => by rw [(Q4.out.below b5 Q4.out.lt).cell, Nat.zero_add]; exact hj⟩⟩)
  have V5 := Lib.hid (show rdAt (fun _ => False) W5 (.slice (some ⟨w4.heap.size, 0, none⟩) 6 6) S8.length (stL S8) from
    ⟨_, _, rfl, .inr ⟨w4.heap.size, 0, rfl, fun t => t, r5.lt, fun j u hj => by rw [r5.cell, Nat.zero_add]; exact hj⟩⟩)
  clear b5 r5
  go_wp2_with fail
  refine (pairs_is (r := true) (xs := S8) (ys := S8) (by decide) U5.out V5.out (by decide) (by decide)).mono ?_
  rintro e w6 ⟨rfl, hb⟩
  clear hW5
  have B6 := Lib.hid (down_call B5.out hb)
  have P6 := Lib.hid (P5.out.below hb)
  have R6 := Lib.hid (R5.out.below hb R5.out.lt)
  have x0 : w6.cell? ⟨w1.heap.size, 0, none⟩ = some (.slice a1 1 c1) := (R6.out.cell 0).trans rfl
  have x1 : w6.cell? ⟨w1.heap.size, 1, none⟩ = some (.slice none 0 0) := (R6.out.cell 1).trans rfl
  have x2 : w6.cell? ⟨w1.heap.size, 2, none⟩ = some (.slice none 0 0) := (R6.out.cell 2).trans rfl
  clear hb
  go_wp2_with fail
  refine (ch8 p8_1 P6.out p8_fit (HT.out.below B6.out)).mono ?_
  rintro e w7 ⟨rfl, hb⟩
  have B7 := Lib.hid (down_call B6.out hb)
  have P7 := Lib.hid (P6.out.below hb)
  have R7 := Lib.hid (R6.out.below hb R6.out.lt)
  clear x0 x1 x2
  have x0 : w7.cell? ⟨w1.heap.size, 0, none⟩ = some (.slice a1 1 c1) := (R7.out.cell 0).trans rfl
  have x1 : w7.cell? ⟨w1.heap.size, 1, none⟩ = some (.slice none 0 0) := (R7.out.cell 1).trans rfl
  have x2 : w7.cell? ⟨w1.heap.size, 2, none⟩ = some (.slice none 0 0) := (R7.out.cell 2).trans rfl
  clear hb
  go_wp2_with fail
  refine (ch8 p8_14 P7.out p8_fit (HT.out.below B7.out)).mono ?_
  rintro e w8 ⟨rfl, hb⟩
  have B8 := Lib.hid (down_call B7.out hb)
  have P8' := Lib.hid (P7.out.below hb)
  have R8 := Lib.hid (R7.out.below hb R7.out.lt)
  clear hb x0 x1 x2
  obtain ⟨W9, hW9⟩ : ∃ W, w8.alloc (.cells #[.int .i64 37, .int .i64 0, .int .i64 0] 49) = W := ⟨_, rfl⟩
  have b9 : Below w8.heap.size w8 W9 := by rw [← hW9]; exact down_alloc (Below.refl _ _) _
  have r9 : rowAt W9 w8.heap.size 49 (insL [(37, 0, 0)]) := by rw [← hW9]; exact rowAt.made _ _ _
  have RV9 := Lib.hid (show rdAt (fun _ => False) W9 (.slice (some ⟨w8.heap.size, 0, none⟩) 1 1) [((37 : Int), (0 : Int), (0 : Int))].length (insL [(37, 0, 0)]) from
    ⟨_, _, rfl, .inr ⟨w8.heap.size, 0, rfl, fun t => t, r9.lt, fun j u hj => by rw [r9.cell, Nat.zero_add]; exact hj⟩⟩)
  have B9 := Lib.hid (down_call B8.out b9)
  have P9 := Lib.hid (P8'.out.below b9)
  have R9 := Lib.hid (R8.out.below b9 R8.out.lt)
  clear b9 r9
  go_wp2_with fail
  refine (small8_any (l := [(37, 0, 0)]) RV9.out).mono ?_
  rintro e w10 ⟨a2, c2, rfl, hp, hb⟩
  clear hW9
  have B10 := Lib.hid (down_call B9.out hb)
  have P10 := Lib.hid (P9.out.below hb)
  have R10 := Lib.hid (R9.out.below hb R9.out.lt)
  have PB := Lib.hid (show prAt (fun _ => False) w10 (.slice a2 1 c2) (.slice none 0 0) (.slice none 0 0) P8b from hp)
  clear hp hb
  go_wp2_with fail
  refine (ch8 p8b_0 PB.out p8b_fit (HT.out.below B10.out)).mono ?_
  rintro e w11 ⟨rfl, hb⟩
  have B11 := Lib.hid (down_call B10.out hb)
  have P11 := Lib.hid (P10.out.below hb)
  have R11 := Lib.hid (R10.out.below hb R10.out.lt)
  have x0 : w11.cell? ⟨w1.heap.size, 0, none⟩ = some (.slice a1 1 c1) := (R11.out.cell 0).trans rfl
  have x1 : w11.cell? ⟨w1.heap.size, 1, none⟩ = some (.slice none 0 0) := (R11.out.cell 1).trans rfl
  have x2 : w11.cell? ⟨w1.heap.size, 2, none⟩ = some (.slice none 0 0) := (R11.out.cell 2).trans rfl
  clear hb
  go_wp2_with fail
  refine (ca8 p8_c P11.out p8_fit (HT.out.below B11.out)).mono ?_
  rintro e w12 ⟨rfl, hb⟩
  have B12 := Lib.hid (down_call B11.out hb)
  go_wp2_with fail
  go_ret
  exact ⟨rfl, B12.out⟩
end Go.Proofs.YtlfbfnkmbceejaaDoor
