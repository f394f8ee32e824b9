/-
  The document's own examples for package code ('wakes').
  Conditions: as each states.
-/
import Derived.Test.YtabdbciebhmflaaDoorCoLg
import Derived.Test.YtabdbciebhmflaaDoorCoKp
namespace Go.Proofs.YtabdbciebhmflaaDoor
open Go.ChangeShapes Go.WideShapes Go.ChangeAt Go.RowKit
set_option linter.unusedVariables false
set_option linter.unusedSimpArgs false
set_option maxRecDepth 100000

def SmallPost (w : World) (l : List PIns) (e : Ending) (w' : World) : Prop :=
  ∃ a c, e = .returned (.agg #[.slice a 1 c, .slice none 0 0, .slice none 0 0]) ∧ prAt (fun _ => False) w' (.slice a 1 c) (.slice none 0 0) (.slice none 0 0) ([(0, 0, l)], [], []) ∧ Below w.heap.size w w'
theorem small_end {S : Nat → Prop} {w W : World} {l : List PIns} {g : Nat} {v : Value} (hv : rdAt S w v l.length (insL l)) (hb : Below w.heap.size w W) (c0 : W.cell? ⟨g, 0, none⟩ = some (.int .i64 0)) (c1 : W.cell? ⟨g, 1, none⟩ = some (.int .i64 0)) (c2 : W.cell? ⟨g, 2, none⟩ = some v) :
    SmallPost w l (.returned (.agg #[.slice (some ⟨g, 0, none⟩) 1 1, .slice none 0 0, .slice none 0 0])) W := by
  refine ⟨_, _, rfl, ⟨⟨_, _, rfl, .inr ⟨g, 0, rfl, fun t => t, World.block_lt_of_cell? W _ c0, fun i x hx => ?_⟩⟩, ⟨none, 0, rfl, .inl rfl⟩, ⟨none, 0, rfl, .inl rfl⟩⟩, hb⟩
  cases i with
  | zero =>
    simp at hx
    subst hx
    exact ⟨by simpa using c0, by simpa using c1, v, by simpa using c2, (hv.off (T := fun _ => False) fun _ _ t => t.elim).below hb⟩
  | succ i => simp at hx
theorem small_any {S : Nat → Prop} {w : World} {v : Value} {l : List PIns} (h : rdAt S w v l.length (insL l)) :
    Calls Tryd.prog 18 #[v] w (SmallPost w l) := by
  have HV := Lib.hid h
  obtain ⟨a, c, rfl⟩ := h.slice
  clear h
  go_enter Tryd.func18, Tryd.ntmps18
  go_wp2_with fail
  refine bodyPost_ret (v := .agg #[.slice (some ⟨w.heap.size + 1, 0, none⟩) 1 1, .slice none 0 0, .slice none 0 0]) (by simp [results, Tryd.results18, go_sem]) rfl (small_end HV.out ?_ ?_ ?_ ?_)
  · repeat (first | exact Below.refl _ _ | refine down_alloc ?_ _ | refine down_set ?_ (by simp) _)
  · simp [go_sem]
  · simp [go_sem]
  · simp [go_sem]

def P0 : PPr := ([(0, 0, [(0, -2, 0), (9, 0, 0)])], [], [])
theorem p0_good : prG P0 = true := by decide +kernel
theorem p0_bytes : encPr P0 = [1, 0, 0, 0, 0, 0, 2, 0, 255, 255, 255, 255, 255, 255, 255, 254, 9] := by decide +kernel
theorem p0_encX : encX P0 = [1, 0, 0, 0, 0, 0, 2, 0, 255, 255, 255, 255, 255, 255, 255, 254, 9] := by unfold encX; rw [if_pos p0_good, p0_bytes]
theorem p0_byI : byI [1, 0, 0, 0, 0, 0, 2, 0, 255, 255, 255, 255, 255, 255, 255, 254, 9] = ⟨#[1, 0, 0, 0, 0, 0, 2, 0, 255, 255, 255, 255, 255, 255, 255, 254, 9]⟩ := by kernel_rfl
theorem p0_dec : decB [1, 0, 0, 0, 0, 0, 2, 0, 255, 255, 255, 255, 255, 255, 255, 254, 9] = true ∧ decPr [1, 0, 0, 0, 0, 0, 2, 0, 255, 255, 255, 255, 255, 255, 255, 254, 9] = P0 := by
  have := dec_enc p0_good
  rwa [p0_bytes] at this
theorem pz_bad : prG ([], [], []) = false := by decide +kernel
theorem p100 : decB [1, 0, 0] = false := by decide +kernel
theorem p0_fit : prF P0 := by
  refine ⟨fun f hf => ?_, fun m hm => (by cases hm), fun s hs => (by cases hs), by decide, by decide, by decide⟩
  obtain rfl := List.mem_singleton.1 hf
  refine ⟨rfl, rfl, fun p hp => ?_, by decide⟩
  simp only [List.mem_cons, List.not_mem_nil, or_false] at hp
  rcases hp with rfl | rfl <;> exact ⟨rfl, rfl, rfl⟩
theorem pz_fit : prF ([], [], []) := ⟨fun f hf => (by cases hf), fun m hm => (by cases hm), fun s hs => (by cases hs), by decide, by decide, by decide⟩

set_option maxHeartbeats 8000000 in
theorem wakes_any (w : World) (T : CoTab w) : Calls Tryd.prog 8 #[] w fun e w' => e = .returned (.bool true) ∧ Below w.heap.size w w' := by
  obtain ⟨W, hW⟩ : ∃ W, w.alloc (.cells #[.int .i64 0, .int .i64 (-2), .int .i64 0, .int .i64 9, .int .i64 0, .int .i64 0] 47) = W := ⟨_, rfl⟩
  have BW := Lib.hid (show Below w.heap.size w W by rw [← hW]; exact down_alloc (Below.refl _ _) _)
  have rW : rowAt W w.heap.size 47 [.int .i64 0, .int .i64 (-2), .int .i64 0, .int .i64 9, .int .i64 0, .int .i64 0] := by rw [← hW]; exact rowAt.made _ _ _
  have RV := Lib.hid (show rdAt (fun _ => False) W (.slice (some ⟨w.heap.size, 0, none⟩) 2 2) 2 (insL [(0, -2, 0), (9, 0, 0)]) from
    ⟨_, _, rfl, .inr ⟨w.heap.size, 0, rfl, fun t => t, rW.lt, fun j u hj => by rw [rW.cell, Nat.zero_add]; exact hj⟩⟩)
  go_enter Tryd.func8, Tryd.ntmps8
  go_wp2_with fail
  clear hW
  refine (small_any (l := [(0, -2, 0), (9, 0, 0)]) RV.out).mono ?_
  rintro e w1 ⟨a1, c1, rfl, hp, hb⟩
  have B1 := Lib.hid (down_call BW.out hb)
  have HP := Lib.hid hp
  clear hp hb rW
  go_wp2_with fail
  refine (encode_any _ _ _ P0 _ (T.below B1.out) HP.out p0_fit).mono ?_
  rintro e w2 ⟨sv, rfl, hown, hb⟩
  have B2 := Lib.hid (down_call B1.out hb)
  rw [p0_encX] at hown
  rw [p0_good]
  have by2 := bySl.all (bySl.of_owns (B0 := w2.heap.size) hown rfl fun g hg => (own_ge hown g hg).2)
  obtain ⟨sa, sc, rfl⟩ : ∃ a c, sv = .slice a 17 c := owns_slice hown
  have BY := Lib.hid by2
  clear hb hown by2
  go_wp2_with fail
  refine (decode_any _ _ _ (T.below B2.out) BY.out (by decide)).mono ?_
  rintro e w3 ⟨u1, u2, u3, rfl, hp3, hb⟩
  rw [p0_dec.1]
  rw [p0_dec.2] at hp3
  have B3 := Lib.hid (down_call B2.out hb)
  have BY3 := Lib.hid (BY.out.below hb)
  obtain ⟨x1, y1, rfl⟩ : ∃ a c, u1 = .slice a 1 c := hp3.1.slice
  obtain ⟨x2, y2, rfl⟩ : ∃ a c, u2 = .slice a 0 c := hp3.2.1.slice
  obtain ⟨x3, y3, rfl⟩ : ∃ a c, u3 = .slice a 0 c := hp3.2.2.slice
  have P3 := Lib.hid (hp3.off (T := fun _ => False) fun _ _ t => t.elim)
  clear hb hp3
  obtain ⟨V3, hV3⟩ : ∃ V, w3.alloc (.cells #[.slice x1 1 y1, .slice x2 0 y2, .slice x3 0 y3] 26) = V := ⟨_, rfl⟩
  have hb3 : Below w3.heap.size w3 V3 := by rw [← hV3]; exact down_alloc (Below.refl _ _) _
  have r3 : rowAt V3 w3.heap.size 26 [.slice x1 1 y1, .slice x2 0 y2, .slice x3 0 y3] := by rw [← hV3]; exact rowAt.made _ _ _
  have BV := Lib.hid (down_call B3.out hb3)
  have PV := Lib.hid (P3.out.below hb3)
  have BYV := Lib.hid (BY3.out.below hb3)
  clear hb3
  go_wp2_with fail
  clear hV3
  refine (encode_any _ _ _ ([], [], []) _ (T.below BV.out) (prAt_nil (S := fun _ => False)) pz_fit).mono ?_
  rintro e w4 ⟨sv, rfl, hown, hb⟩
  rw [pz_bad]
  have B4 := Lib.hid (down_call BV.out hb)
  have r4 := r3.below hb r3.lt
  have P4 := Lib.hid (PV.out.below hb)
  have BY4 := Lib.hid (BYV.out.below hb)
  obtain ⟨ta, tc, rfl⟩ := owns_slice hown
  clear hown hb r3
  obtain ⟨V4, hV4⟩ : ∃ V, w4.alloc (.cells #[.int .u8 1, .int .u8 0, .int .u8 0] 5) = V := ⟨_, rfl⟩
  have hb4 : Below w4.heap.size w4 V4 := by rw [← hV4]; exact down_alloc (Below.refl _ _) _
  have rr4 : rowAt V4 w4.heap.size 5 [.int .u8 1, .int .u8 0, .int .u8 0] := by rw [← hV4]; exact rowAt.made _ _ _
  have BB4 := Lib.hid (down_call B4.out hb4)
  have r5 := r4.below hb4 r4.lt
  have P5 := Lib.hid (P4.out.below hb4)
  have BY5 := Lib.hid (BY4.out.below hb4)
  have NB := Lib.hid (show bySl V4.heap.size V4 (.slice (some ⟨w4.heap.size, 0, none⟩) 3 3) [1, 0, 0] from
    ⟨_, _, rfl, Nat.le_refl _, by decide, .inr ⟨w4.heap.size, 0, rfl, rr4.lt, rr4.lt, fun j z hj => by
      rw [rr4.cell, Nat.zero_add]
      have : ([.int .u8 1, .int .u8 0, .int .u8 0] : List Value) = ([1, 0, 0] : List Int).map (Value.int .u8) := rfl
      rw [this, List.getElem?_map, hj]; rfl⟩⟩)
  clear hb4 rr4 r4
  go_wp2_with fail
  clear hV4
  refine (decode_any _ _ _ (T.below BB4.out) NB.out (by decide)).mono ?_
  rintro e w5 ⟨q1, q2, q3, rfl, hp5, hb⟩
  rw [p100]
  have hz : decPr [1, 0, 0] = ([], [], []) := by unfold decPr; rw [if_neg (by rw [p100]; decide)]
  rw [hz] at hp5
  obtain ⟨k1, l1, rfl⟩ := hp5.1.slice
  obtain ⟨k2, l2, rfl⟩ := hp5.2.1.slice
  obtain ⟨k3, l3, rfl⟩ := hp5.2.2.slice
  have B5 := Lib.hid (down_call BB4.out hb)
  have r6 := r5.below hb r5.lt
  have P6 := Lib.hid (P5.out.below hb)
  have BY6 := Lib.hid (BY5.out.below hb)
  clear hp5 hb r5
  obtain ⟨V5, hV5⟩ : ∃ V, w5.alloc (.cells #[.slice k1 0 l1, .slice k2 0 l2, .slice k3 0 l3] 26) = V := ⟨_, rfl⟩
  have hb5 : Below w5.heap.size w5 V5 := by rw [← hV5]; exact down_alloc (Below.refl _ _) _
  have B7 := Lib.hid (down_call B5.out hb5)
  have r7 := r6.below hb5 r6.lt
  have P7 := Lib.hid (P6.out.below hb5)
  have BY7 := BY6.out.below hb5
  have cv := conv_bytes BY7
  rw [p0_byI] at cv
  have x0 : V5.cell? ⟨w3.heap.size, 0, none⟩ = some (.slice x1 1 y1) := (r7.cell 0).trans rfl
  have x1' : V5.cell? ⟨w3.heap.size, 1, none⟩ = some (.slice x2 0 y2) := (r7.cell 1).trans rfl
  have x2' : V5.cell? ⟨w3.heap.size, 2, none⟩ = some (.slice x3 0 y3) := (r7.cell 2).trans rfl
  have hf := P7.out.1
  obtain ⟨fa, fc, hfe, hff⟩ := hf
  cases hfe
  rcases hff with h0 | ⟨fb, fo, rfl, -, -, hel⟩
  · exact absurd h0 (by decide)
  obtain ⟨g0, g1, gv, g2, hgv⟩ := hel 0 (0, 0, [(0, -2, 0), (9, 0, 0)]) rfl
  simp only [Nat.zero_mul, Nat.add_zero] at g0 g1 g2
  obtain ⟨ga, gc, rfl⟩ : ∃ a c, gv = .slice a 2 c := hgv.slice
  have GV := Lib.hid hgv
  clear hel hgv BY7 hb5 r6
  obtain ⟨V6, hV6⟩ : ∃ V, V5.alloc (.cells #[.int .i64 0, .int .i64 (-2), .int .i64 0, .int .i64 9, .int .i64 0, .int .i64 0] 47) = V := ⟨_, rfl⟩
  have hb6 : Below V5.heap.size V5 V6 := by rw [← hV6]; exact down_alloc (Below.refl _ _) _
  have r8 : rowAt V6 V5.heap.size 47 [.int .i64 0, .int .i64 (-2), .int .i64 0, .int .i64 9, .int .i64 0, .int .i64 0] := by rw [← hV6]; exact rowAt.made _ _ _
  have RV8 := Lib.hid (show rdAt (fun _ => False) V6 (.slice (some ⟨V5.heap.size, 0, none⟩) 2 2) 2 (insL [(0, -2, 0), (9, 0, 0)]) from
    ⟨_, _, rfl, .inr ⟨V5.heap.size, 0, rfl, fun t => t, r8.lt, fun j u hj => by rw [r8.cell, Nat.zero_add]; exact hj⟩⟩)
  have GV6 := Lib.hid (GV.out.below hb6)
  have r9 := r7.below hb6 r7.lt
  have P8 := Lib.hid (P7.out.below hb6)
  have B8 := Lib.hid (down_call B7.out hb6)
  have z0 : V6.cell? ⟨w3.heap.size, 0, none⟩ = some (.slice (some ⟨fb, fo, none⟩) 1 y1) := (r9.cell 0).trans rfl
  have z1 : V6.cell? ⟨w3.heap.size, 1, none⟩ = some (.slice x2 0 y2) := (r9.cell 1).trans rfl
  have z2 : V6.cell? ⟨w3.heap.size, 2, none⟩ = some (.slice x3 0 y3) := (r9.cell 2).trans rfl
  clear hb6 r8 r7 r9
  go_wp2_with fail
  clear hV6
  refine (keepCode_is (xs := [(0, -2, 0), (9, 0, 0)]) (ys := [(0, -2, 0), (9, 0, 0)]) (b := true) GV6.out.reads RV8.out.reads (by decide) (by decide)).mono ?_
  rintro e w6 ⟨rfl, q, rfl⟩
  have B9 := Lib.hid (below_drewN B8.out q)
  have P9 := Lib.hid (P8.out.below (below_draws (Below.refl _ _) q))
  go_wp2_with fail
  refine (codeGood_is p0_good _ _ _ _ (T.op.below B9.out) P9.out p0_fit).mono ?_
  rintro e w7 ⟨rfl, hb⟩
  go_wp2_with fail
  go_ret
  exact ⟨rfl, down_call B9.out hb⟩
end Go.Proofs.YtabdbciebhmflaaDoor
