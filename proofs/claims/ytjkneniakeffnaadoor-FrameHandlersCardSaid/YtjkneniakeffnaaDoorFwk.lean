/-
  The document's own examples for package frame ('wakes').
  Conditions: as each states.
-/
import Derived.Test.YtjkneniakeffnaaDoorFe
import Derived.Test.YtjkneniakeffnaaDoorFf
import Derived.Test.YtjkneniakeffnaaDoorKeep
namespace Go.Proofs.YtjkneniakeffnaaDoor
open Go.ChangeShapes Go.WideShapes Go.ChangeAt Go.RowKit
set_option linter.unusedVariables false
set_option linter.unusedSimpArgs false
set_option maxRecDepth 100000

theorem rd_reads {S : Nat → Prop} {w : World} {v : Value} {n : Nat} {cs : List Value} (h : rdAt S w v n cs) : readsAt w v n cs := by
  obtain ⟨a, c, rfl, h⟩ := h
  exact ⟨a, c, rfl, h.imp id fun ⟨b, o, h1, _, _, h4⟩ => ⟨b, o, h1, h4⟩⟩
theorem keepWordsF_is {w : World} {u v : Value} {xs ys : List Int} (hu : readsAt w u xs.length (wdL xs)) (hv : readsAt w v ys.length (wdL ys)) (hx : xs.length ≤ 140737488355328) {b : Bool} (hb : decide (xs = ys) = b) :
    Calls Tryd.prog 12 #[u, v] w fun e w' => e = .returned (.bool b) ∧ ∃ q, w' = w.drewN q := hb ▸ keepWords_any hu hv hx

def SmallPostF (w : World) (l : List PIns) (e : Ending) (w' : World) : Prop :=
  ∃ a c, e = .returned (.agg #[.slice a 1 c, .slice none 0 0, .slice none 0 0]) ∧ prAt (fun _ => False) w' (.slice a 1 c) (.slice none 0 0) (.slice none 0 0) ([(0, 0, l)], [], []) ∧ Below w.heap.size w w'
theorem smallF_end {S : Nat → Prop} {w W : World} {l : List PIns} {g : Nat} {v : Value} (hv : rdAt S w v l.length (insL l)) (hb : Below w.heap.size w W) (c0 : W.cell? ⟨g, 0, none⟩ = some (.int .i64 0)) (c1 : W.cell? ⟨g, 1, none⟩ = some (.int .i64 0)) (c2 : W.cell? ⟨g, 2, none⟩ = some v) :
    SmallPostF w l (.returned (.agg #[.slice (some ⟨g, 0, none⟩) 1 1, .slice none 0 0, .slice none 0 0])) W := by
  refine ⟨_, _, rfl, ⟨⟨_, _, rfl, .inr ⟨g, 0, rfl, fun t => t, World.block_lt_of_cell? W _ c0, fun i x hx => ?_⟩⟩, ⟨none, 0, rfl, .inl rfl⟩, ⟨none, 0, rfl, .inl rfl⟩⟩, hb⟩
  cases i with
  | zero =>
    simp at hx
    subst hx
    exact ⟨by simpa using c0, by simpa using c1, v, by simpa using c2, (hv.off (T := fun _ => False) fun _ _ t => t.elim).below hb⟩
  | succ i => simp at hx
theorem smallF_any {S : Nat → Prop} {w : World} {v : Value} {l : List PIns} (h : rdAt S w v l.length (insL l)) :
    Calls Tryd.prog 8 #[v] w (SmallPostF w l) := by
  have HV := Lib.hid h
  obtain ⟨a, c, rfl⟩ := h.slice
  clear h
  go_enter Tryd.func8, Tryd.ntmps8
  go_wp2_with fail
  refine bodyPost_ret (v := .agg #[.slice (some ⟨w.heap.size + 1, 0, none⟩) 1 1, .slice none 0 0, .slice none 0 0]) (by simp [results, Tryd.results8, go_sem]) rfl (smallF_end HV.out ?_ ?_ ?_ ?_)
  · repeat (first | exact Below.refl _ _ | refine down_alloc ?_ _ | refine down_set ?_ (by simp) _)
  · simp [go_sem]
  · simp [go_sem]
  · simp [go_sem]

def PF0 : PPr := ([(0, 0, [(0, 1, 0), (9, 0, 0)])], [], [])
theorem pf0_good : prG PF0 = true := by decide +kernel
theorem pf0_fit : prF PF0 := by
  refine ⟨fun f hf => ?_, fun m hm => (by cases hm), fun s hs => (by cases hs), by decide, by decide, by decide⟩
  obtain rfl := List.mem_singleton.1 hf
  refine ⟨rfl, rfl, fun p hp => ?_, by decide⟩
  simp only [List.mem_cons, List.not_mem_nil, or_false] at hp
  rcases hp with rfl | rfl <;> exact ⟨rfl, rfl, rfl⟩
def MF0 : PMa := ⟨0, 9, 0, 0, [], [(0, 0, 0, 1)], [], 0, 1, 0⟩
def MF1 : PMa := ⟨0, 9, 0, 0, [], [(0, 0, 0, 1)], [(1, 0, 1)], 0, 1, 0⟩
theorem mf0_start : startP 0 9 0 0 PF0 = MF0 := by unfold startP; rw [if_pos pf0_good]; rfl
theorem mf0_roots : rootsP MF0 = [1, 1] := rfl
theorem mf0_with : withP MF0 0 9 0 0 [5, 7] = ⟨0, 9, 0, 0, [], [(0, 0, 0, 5)], [], 0, 7, 0⟩ := rfl
theorem mf0_throw : throwP MF0 (-3) = ⟨0, 9, 0, 0, [], [], [], 3, 1, -3⟩ := by kernel_rfl
theorem mf1_throw : throwP MF1 4 = ⟨0, 9, 0, 0, [9], [(0, 1, 0, 1)], [], 0, 1, 0⟩ := by kernel_rfl
theorem mf_fit {M : PMa} (h : M = MF0 ∨ M = MF1) : maF M := by rcases h with rfl | rfl <;> exact ⟨by decide, by decide, by decide⟩
theorem startF_0 {S : Nat → Prop} {w : World} {v1 v2 v3 : Value} (TT : OpTab w) (h : prAt S w v1 v2 v3 PF0) :
    Calls Tryd.prog 9 #[.agg #[.int .i64 0, .int .i64 9, .int .i64 0, .int .i64 0], .agg #[v1, v2, v3]] w fun e w' => ∃ sa sc fa fc ha hc, e = .returned (maV 0 9 0 0 (.slice sa 0 sc) (.slice fa 1 fc) (.slice ha 0 hc) 0 1 0) ∧ maAt (fun k => k < w.heap.size) w' (.slice sa 0 sc) (.slice fa 1 fc) (.slice ha 0 hc) MF0 ∧ Below w.heap.size w w' :=
  (start_any (y0 := 0) (y1 := 9) (y2 := 0) (y3 := 0) TT h pf0_fit).mono fun e w' hp => by
    rw [mf0_start] at hp
    obtain ⟨s, f, h, rfl, hm, hb⟩ := hp
    obtain ⟨sa, sc, rfl⟩ := hm.1.slice
    obtain ⟨fa, fc, rfl⟩ := hm.2.1.slice
    obtain ⟨ha, hc, rfl⟩ := hm.2.2.slice
    exact ⟨sa, sc, fa, fc, ha, hc, rfl, hm, hb⟩
theorem withF_0 {S S' : Nat → Prop} {w : World} {s f h : Value} {b cr : Nat} (k : maAt S w s f h MF0) (hv : rdAt S' w (.slice (some ⟨b, 0, none⟩) 2 cr) 2 (wdL [5, 7])) (hcr : 2 ≤ cr) :
    Calls Tryd.prog 11 #[maV 0 9 0 0 s f h 0 1 0, .agg #[.int .i64 0, .int .i64 9, .int .i64 0, .int .i64 0], .slice (some ⟨b, 0, none⟩) 2 cr] w fun e w' => ∃ sa sc ha hc fb fo fc, e = .returned (.tuple #[maV 0 9 0 0 (.slice sa 0 sc) (.slice (some ⟨fb, fo, none⟩) 1 fc) (.slice ha 0 hc) 0 7 0, .bool true]) ∧ w.heap.size ≤ fb ∧ fb < w'.heap.size ∧ w'.cell? ⟨fb, fo + 3, none⟩ = some (.int .u64 5) ∧ Below w.heap.size w w' :=
  (with_yes (rs := [5, 7]) k (mf_fit (.inl rfl)) hv hcr rfl).mono fun e w' hp => by
    obtain ⟨s', f', h', rfl, hm, hb⟩ := hp
    obtain ⟨sa, sc, rfl⟩ := hm.1.slice
    obtain ⟨ha, hc, rfl⟩ := hm.2.2.slice
    obtain ⟨fa, fc, he, hf⟩ := hm.2.1
    rcases hf with hf | ⟨fb, fo, rfl, hge, hlt, hel⟩
    · exact absurd hf (by decide)
    · cases he
      exact ⟨sa, sc, ha, hc, fb, fo, fc, rfl, Nat.not_lt.1 hge, hlt, hel 3 _ rfl, hb⟩
theorem throwF_0 {S : Nat → Prop} {w : World} {s f h : Value} (k : maAt S w s f h MF0) :
    Calls Tryd.prog 6 #[maV 0 9 0 0 s f h 0 1 0, .int .i64 (-3)] w fun e w' => ∃ sa sc fa fc ha hc, e = .returned (maV 0 9 0 0 (.slice sa 0 sc) (.slice fa 0 fc) (.slice ha 0 hc) 3 1 (-3)) ∧ Below w.heap.size w w' :=
  (throw_any MF0 (-3) k (mf_fit (.inl rfl))).mono fun e w' hp => by
    rw [mf0_throw] at hp
    obtain ⟨s', f', h', rfl, hm, hb⟩ := hp
    obtain ⟨sa, sc, rfl⟩ := hm.1.slice
    obtain ⟨fa, fc, rfl⟩ := hm.2.1.slice
    obtain ⟨ha, hc, rfl⟩ := hm.2.2.slice
    exact ⟨sa, sc, fa, fc, ha, hc, rfl, hb⟩
theorem throwF_1 {S : Nat → Prop} {w : World} {s f h : Value} (k : maAt S w s f h MF1) :
    Calls Tryd.prog 6 #[maV 0 9 0 0 s f h 0 1 0, .int .i64 4] w fun e w' => ∃ sa sc fb fo fc ha hc, e = .returned (maV 0 9 0 0 (.slice sa 1 sc) (.slice (some ⟨fb, fo, none⟩) 1 fc) (.slice ha 0 hc) 0 1 0) ∧ rdAt (fun k => k < w.heap.size) w' (.slice sa 1 sc) 1 (wdL [9]) ∧ fb < w'.heap.size ∧ w'.cell? ⟨fb, fo + 1, none⟩ = some (.int .i64 1) ∧ Below w.heap.size w w' :=
  (throw_any MF1 4 k (mf_fit (.inr rfl))).mono fun e w' hp => by
    rw [mf1_throw] at hp
    obtain ⟨s', f', h', rfl, hm, hb⟩ := hp
    obtain ⟨sa, sc, rfl⟩ := hm.1.slice
    obtain ⟨ha, hc, rfl⟩ := hm.2.2.slice
    obtain ⟨fa, fc, he, hf⟩ := hm.2.1
    rcases hf with hf | ⟨fb, fo, rfl, -, hlt, hel⟩
    · exact absurd hf (by decide)
    · cases he
      exact ⟨sa, sc, fb, fo, fc, ha, hc, rfl, hm.1, hlt, hel 1 _ rfl, hb⟩

set_option maxHeartbeats 8000000 in
theorem wakesF_any (w : World) (TT : OpTab w) : Calls Tryd.prog 4 #[] w fun e w' => e = .returned (.bool true) ∧ Below w.heap.size w w' := by
  obtain ⟨W, hW⟩ : ∃ W, w.alloc (.cells #[.int .i64 0, .int .i64 1, .int .i64 0, .int .i64 9, .int .i64 0, .int .i64 0] 47) = W := ⟨_, rfl⟩
  have BW := Lib.hid (show Below w.heap.size w W by rw [← hW]; exact down_alloc (Below.refl _ _) _)
  have rW : rowAt W w.heap.size 47 [.int .i64 0, .int .i64 1, .int .i64 0, .int .i64 9, .int .i64 0, .int .i64 0] := by rw [← hW]; exact rowAt.made _ _ _
  have RV := Lib.hid (show rdAt (fun _ => False) W (.slice (some ⟨w.heap.size, 0, none⟩) 2 2) 2 (insL [(0, 1, 0), (9, 0, 0)]) from rd_row rW (fun t => t) fun _ _ h => h)
  go_enter Tryd.func4, Tryd.ntmps4
  go_wp2_with fail
  clear hW
  refine (smallF_any (l := [(0, 1, 0), (9, 0, 0)]) RV.out).mono ?_
  rintro e w1 ⟨a1, c1, rfl, hp, hb⟩
  have B1 := Lib.hid (down_call BW.out hb)
  have HP := Lib.hid hp
  clear hp hb rW
  go_wp2_with fail
  obtain ⟨V1, hV1⟩ : ∃ V, w1.alloc (.cells #[.slice a1 1 c1, .slice none 0 0, .slice none 0 0] 44) = V := ⟨_, rfl⟩
  have bV1 : Below w1.heap.size w1 V1 := by rw [← hV1]; exact down_alloc (Below.refl _ _) _
  have C1 := Lib.hid (down_call B1.out bV1)
  have P1 := Lib.hid (HP.out.below bV1)
  have rV1 : rowAt V1 w1.heap.size 44 [.slice a1 1 c1, .slice none 0 0, .slice none 0 0] := by rw [← hV1]; exact rowAt.made _ _ _
  clear bV1 rV1
  rw [hV1]
  clear hV1
  refine (startF_0 (TT.below C1.out) P1.out).mono ?_
  rintro e w2 ⟨sa, sc, fa, fc, ha, hc, rfl, hm, hb⟩
  have B2 := Lib.hid (down_call C1.out hb)
  clear hb
  go_wp2_with fail
  obtain ⟨V2, hV2⟩ : ∃ V, w2.alloc (.cells #[.int .i64 0, .int .i64 9, .int .i64 0, .int .i64 0, .slice sa 0 sc, .slice fa 1 fc, .slice ha 0 hc, .int .i64 0, .int .u64 1, .int .i64 0] 34) = V := ⟨_, rfl⟩
  have bV2 : Below w2.heap.size w2 V2 := by rw [← hV2]; exact down_alloc (Below.refl _ _) _
  have C2 := Lib.hid (down_call B2.out bV2)
  have K2 := Lib.hid ((hm.off (T := fun k => w2.heap.size ≤ k) fun k hk t => absurd hk (by omega)).below bV2)
  have R2 := Lib.hid (show rowAt V2 w2.heap.size 34 [.int .i64 0, .int .i64 9, .int .i64 0, .int .i64 0, .slice sa 0 sc, .slice fa 1 fc, .slice ha 0 hc, .int .i64 0, .int .u64 1, .int .i64 0] by rw [← hV2]; exact rowAt.made _ _ _)
  clear bV2 hm
  rw [hV2]
  clear hV2
  refine (roots_any MF0 K2.out (mf_fit (.inl rfl))).mono ?_
  rintro e w3 ⟨rv, rfl, hro, hb⟩
  rw [mf0_roots] at hro
  obtain ⟨ra, rc, rfl⟩ := owns_slice hro
  have B3 := Lib.hid (down_call C2.out hb)
  have K3 := Lib.hid (K2.out.below hb)
  have R3 := Lib.hid (R2.out.below hb R2.out.lt)
  have RR := Lib.hid (rdAt.of_owns (S := fun k => k = w2.heap.size) hro fun g hg e => by have := (own_ge hro g hg).1; have := R2.out.lt; omega)
  simp only [List.length_cons, List.length_nil, Nat.zero_add, Nat.reduceAdd] at RR ⊢
  clear hro hb
  obtain ⟨x0, x1, x2, x3, x4, x5, x6, x7, x8, x9⟩ := cells10 R3.out
  obtain ⟨V3, hV3⟩ : ∃ V, w3.alloc (.cells #[.int .u64 5, .int .u64 7] 24) = V := ⟨_, rfl⟩
  have bV3 : Below w3.heap.size w3 V3 := by rw [← hV3]; exact down_alloc (Below.refl _ _) _
  have C3 := Lib.hid (down_call B3.out bV3)
  have K3' := Lib.hid (K3.out.below bV3)
  have R3' := Lib.hid (R3.out.below bV3 R3.out.lt)
  have RR3 := Lib.hid (RR.out.below bV3)
  have N3 := Lib.hid (show rdAt (fun _ => False) V3 (.slice (some ⟨w3.heap.size, 0, none⟩) 2 2) 2 (wdL [5, 7]) by rw [← hV3]; exact rd_row (rowAt.made _ _ _) (fun t => t) fun _ _ h => h)
  clear bV3
  go_wp2_with fail
  clear hV3 x0 x1 x2 x3 x4 x5 x6 x7 x8 x9
  refine (withF_0 K3'.out N3.out (Nat.le_refl _)).mono ?_
  rintro e w4 ⟨sa4, sc4, ha4, hc4', fb4, fo4, fc4, rfl, hg4, hl4, hc4, hb⟩
  have G4 := Lib.hid (show w2.heap.size < fb4 from Nat.lt_of_lt_of_le R3'.out.lt hg4)
  have G5 := Lib.hid (show w2.heap.size < w4.heap.size from Nat.lt_of_lt_of_le R3'.out.lt hb.size)
  clear hg4
  have B4 := Lib.hid (down_call C3.out hb)
  have K4 := Lib.hid (K3'.out.below hb)
  have R4 := Lib.hid (R3'.out.below hb R3'.out.lt)
  have RR4 := Lib.hid (RR3.out.below hb)
  clear hb
  obtain ⟨x0, x1, x2, x3, x4, x5, x6, x7, x8, x9⟩ := cells10 R4.out
  have xl := R4.out.lt
  go_wp2_with fail
  clear x0 x1 x2 x3 x4 x5 x6 x7 x8 x9 xl
  obtain ⟨V4, hV4⟩ : ∃ V, w4.alloc (.cells #[.int .i64 0, .int .i64 9, .int .i64 0, .int .i64 0, .slice sa4 0 sc4, .slice (some ⟨fb4, fo4, none⟩) 1 fc4, .slice ha4 0 hc4', .int .i64 0, .int .u64 7, .int .i64 0] 34) = V := ⟨_, rfl⟩
  have bV4 : Below w4.heap.size w4 V4 := by rw [← hV4]; exact down_alloc (Below.refl _ _) _
  have C4 := Lib.hid (down_call B4.out bV4)
  have K4' := Lib.hid (K4.out.below bV4)
  have R4' := Lib.hid (R4.out.below bV4 R4.out.lt)
  have RR4' := Lib.hid (RR4.out.below bV4)
  have Q4 := Lib.hid (show rowAt V4 w4.heap.size 34 [.int .i64 0, .int .i64 9, .int .i64 0, .int .i64 0, .slice sa4 0 sc4, .slice (some ⟨fb4, fo4, none⟩) 1 fc4, .slice ha4 0 hc4', .int .i64 0, .int .u64 7, .int .i64 0] by rw [← hV4]; exact rowAt.made _ _ _)
  have L4 := Lib.hid (show fb4 < V4.heap.size from Nat.lt_of_lt_of_le hl4 bV4.size)
  have D4 := Lib.hid (show V4.cell? ⟨fb4, fo4 + 3, none⟩ = some (.int .u64 5) from (bV4.cell (p := ⟨fb4, fo4 + 3, none⟩) hl4).trans hc4)
  clear bV4 hl4 hc4
  rw [hV4]
  clear hV4
  refine (with_no (rs := []) (S' := fun _ => False) K4'.out (mf_fit (.inl rfl)) rd_nil (by decide)).mono ?_
  rintro e w5 ⟨rfl, hb⟩
  have B5 := Lib.hid (down_call C4.out hb)
  have R5a := R4'.out.below hb R4'.out.lt
  obtain ⟨x0, x1, x2, x3, x4, x5, x6, x7, x8, x9⟩ := cells10 R5a
  have xl := R5a.lt
  go_wp2_with fail
  clear x0 x1 x2 x3 x4 x5 x6 x7 x8 x9 xl R5a
  obtain ⟨V5, hV5⟩ : ∃ V, w5.alloc (.cells #[.int .i64 0, .int .i64 0, .int .i64 0, .int .i64 0, .slice none 0 0, .slice none 0 0, .slice none 0 0, .int .i64 0, .int .u64 0, .int .i64 0] 34) = V := ⟨_, rfl⟩
  have bV5 : Below V4.heap.size V4 V5 := by rw [← hV5]; exact down_alloc hb _
  have C5 := Lib.hid (down_call C4.out bV5)
  have K5 := Lib.hid (K4'.out.below bV5)
  have R5 := Lib.hid (R4'.out.below bV5 R4'.out.lt)
  have RR5 := Lib.hid (RR4'.out.below bV5)
  have Q5 := Lib.hid (Q4.out.below bV5 Q4.out.lt)
  have L5 := Lib.hid (show fb4 < V5.heap.size from Nat.lt_of_lt_of_le L4.out bV5.size)
  have D5 := Lib.hid (show V5.cell? ⟨fb4, fo4 + 3, none⟩ = some (.int .u64 5) from (bV5.cell (p := ⟨fb4, fo4 + 3, none⟩) L4.out).trans D4.out)
  clear bV5 hb
  rw [hV5]
  clear hV5
  refine (throwF_0 K5.out).mono ?_
  rintro e w6 ⟨sa6, sc6, fa6, fc6, ha6, hc6, rfl, hb⟩
  have R6 := Lib.hid (R5.out.below hb R5.out.lt)
  have K6 := Lib.hid (K5.out.below hb)
  have RR6 := Lib.hid (RR5.out.below hb)
  have Q6 := Lib.hid (Q5.out.below hb Q5.out.lt)
  have L6 := Lib.hid (show fb4 < w6.heap.size from Nat.lt_of_lt_of_le L5.out hb.size)
  have D6 := Lib.hid (show w6.cell? ⟨fb4, fo4 + 3, none⟩ = some (.int .u64 5) from (hb.cell (p := ⟨fb4, fo4 + 3, none⟩) L5.out).trans D5.out)
  have C6 := Lib.hid (down_call C5.out hb)
  have G6 := Lib.hid (show w2.heap.size < w6.heap.size from R6.out.lt)
  obtain ⟨x0, x1, x2, x3, x4, x5, x6, x7, x8, x9⟩ := cells10 R6.out
  have x6f := R6.out.free 6
  have xl := R6.out.lt
  clear hb
  go_wp2_with fail
  clear x0 x1 x2 x3 x4 x5 x6 x7 x8 x9 xl x6f
  have SX := Lib.hid (show (w6.setCell ⟨w2.heap.size, 6, none⟩ (.slice (some ⟨w6.heap.size + 1, 0, none⟩) 1 1)).heap.size = w6.heap.size by simp [World.setCell])
  have U8 := Lib.hid (show Upon (fun k => k = w2.heap.size) w6 (((w6.setCell ⟨w2.heap.size, 6, none⟩ (.slice (some ⟨w6.heap.size + 1, 0, none⟩) 1 1)).alloc (.cells #[.int .i64 0, .int .i64 9, .int .i64 0, .int .i64 0, .slice sa6 0 sc6, .slice fa6 0 fc6, .slice ha6 0 hc6, .int .i64 3, .int .u64 1, .int .i64 (-3)] 34)).alloc (.cells #[.int .i64 1, .int .i64 0, .int .i64 1] 36)) from
    (Upon.setCell (S := fun k => k = w2.heap.size) _ _ rfl).trans (Upon.of_below (S := fun _ => False) (down_alloc (down_alloc (Below.refl _ _) _) _)) fun _ _ t => False.elim t)
  have R8 := Lib.hid (((R6.out.set 6 (.slice (some ⟨w6.heap.size + 1, 0, none⟩) 1 1)).alloc (.cells #[.int .i64 0, .int .i64 9, .int .i64 0, .int .i64 0, .slice sa6 0 sc6, .slice fa6 0 fc6, .slice ha6 0 hc6, .int .i64 3, .int .u64 1, .int .i64 (-3)] 34)).alloc (.cells #[.int .i64 1, .int .i64 0, .int .i64 1] 36))
  have T8 := Lib.hid ((rowAt.made_at (w := (w6.setCell ⟨w2.heap.size, 6, none⟩ (.slice (some ⟨w6.heap.size + 1, 0, none⟩) 1 1))) (b := w6.heap.size) 34 [.int .i64 0, .int .i64 9, .int .i64 0, .int .i64 0, .slice sa6 0 sc6, .slice fa6 0 fc6, .slice ha6 0 hc6, .int .i64 3, .int .u64 1, .int .i64 (-3)] SX.out.symm).alloc (.cells #[.int .i64 1, .int .i64 0, .int .i64 1] 36))
  have H8 := Lib.hid (rowAt.made_at (w := (w6.setCell ⟨w2.heap.size, 6, none⟩ (.slice (some ⟨w6.heap.size + 1, 0, none⟩) 1 1)).alloc (.cells #[.int .i64 0, .int .i64 9, .int .i64 0, .int .i64 0, .slice sa6 0 sc6, .slice fa6 0 fc6, .slice ha6 0 hc6, .int .i64 3, .int .u64 1, .int .i64 (-3)] 34)) (b := w6.heap.size + 1) 36 [.int .i64 1, .int .i64 0, .int .i64 1] (by rw [World.size_alloc, SX.out]))
  obtain ⟨V8, hV8⟩ : ∃ V, ((w6.setCell ⟨w2.heap.size, 6, none⟩ (.slice (some ⟨w6.heap.size + 1, 0, none⟩) 1 1)).alloc (.cells #[.int .i64 0, .int .i64 9, .int .i64 0, .int .i64 0, .slice sa6 0 sc6, .slice fa6 0 fc6, .slice ha6 0 hc6, .int .i64 3, .int .u64 1, .int .i64 (-3)] 34)).alloc (.cells #[.int .i64 1, .int .i64 0, .int .i64 1] 36) = V := ⟨_, rfl⟩
  rw [hV8] at U8 R8 T8 H8 ⊢
  have g6 := G6.out
  have g4 := G4.out
  have g5 := G5.out
  have C8 := Lib.hid (show Below w.heap.size w V8 from C6.out.trans (U8.out.belowB C6.out.size fun k hk => by have := B2.out.size; omega))
  have K8 := Lib.hid (show maAt (fun _ => False) V8 (.slice sa 0 sc) (.slice fa 1 fc) (.slice (some ⟨w6.heap.size + 1, 0, none⟩) 1 1) MF1 from
    ⟨(K6.out.1.upon U8.out fun k _ e => Nat.le_of_eq e.symm).off fun _ _ t => t.elim, (K6.out.2.1.upon U8.out fun k _ e => Nat.le_of_eq e.symm).off fun _ _ t => t.elim, rd_row H8.out (fun t => t) fun _ _ h => h⟩)
  have RR8 := Lib.hid ((RR6.out.upon U8.out fun k _ e => e).off (T := fun _ => False) fun _ _ t => t.elim)
  have Q8 := Lib.hid (Q6.out.upon U8.out (by omega))
  have D8 := Lib.hid (show V8.cell? ⟨fb4, fo4 + 3, none⟩ = some (.int .u64 5) from (cell_upon U8.out L6.out (by omega)).trans D6.out)
  have L8 := Lib.hid (show fb4 < V8.heap.size from Nat.lt_of_lt_of_le L6.out U8.out.size)
  clear hV8 g6 g4 g5
  refine (throwF_1 K8.out).mono ?_
  rintro e w8 ⟨sa9, sc9, fb9, fo9, fc9, ha9, hc9, rfl, hs9, hl9, hd9, hb⟩
  have R9 := R8.out.below hb R8.out.lt
  have T9 := T8.out.below hb T8.out.lt
  have Q9 := Q8.out.below hb Q8.out.lt
  have RR9 := Lib.hid (RR8.out.below hb)
  have C9 := Lib.hid (down_call C8.out hb)
  have S9 := Lib.hid hs9
  have z4 : w8.cell? ⟨w2.heap.size, 4, none⟩ = some (.slice sa 0 sc) := (R9.cell 4).trans rfl
  have z5 : w8.cell? ⟨w2.heap.size, 5, none⟩ = some (.slice fa 1 fc) := (R9.cell 5).trans rfl
  have zl := R9.lt
  have y5 : w8.cell? ⟨w4.heap.size, 5, none⟩ = some (.slice (some ⟨fb4, fo4, none⟩) 1 fc4) := (Q9.cell 5).trans rfl
  have y8 : w8.cell? ⟨w4.heap.size, 8, none⟩ = some (.int .u64 7) := (Q9.cell 8).trans rfl
  have yl := Q9.lt
  have d9 : w8.cell? ⟨fb4, fo4 + 3, none⟩ = some (.int .u64 5) := (hb.cell (p := ⟨fb4, fo4 + 3, none⟩) L8.out).trans D8.out
  have dl : fb4 < w8.heap.size := Nat.lt_of_lt_of_le L8.out hb.size
  have u5 : w8.cell? ⟨w6.heap.size, 5, none⟩ = some (.slice fa6 0 fc6) := (T9.cell 5).trans rfl
  have u7 : w8.cell? ⟨w6.heap.size, 7, none⟩ = some (.int .i64 3) := (T9.cell 7).trans rfl
  have u9 : w8.cell? ⟨w6.heap.size, 9, none⟩ = some (.int .i64 (-3)) := (T9.cell 9).trans rfl
  have ul := T9.lt
  clear R9 T9 Q9 hb hs9
  go_wp2_with fail
  have dfl := hl9
  have KA : readsAt ((w8.alloc (.cells #[.int .i64 0, .int .i64 9, .int .i64 0, .int .i64 0, .slice sa9 1 sc9, .slice (some ⟨fb9, fo9, none⟩) 1 fc9, .slice ha9 0 hc9, .int .i64 0, .int .u64 1, .int .i64 0] 34)).alloc (.cells #[.int .u64 1, .int .u64 1] 24)) (.slice ra 2 rc) 2 (wdL [1, 1]) := rd_reads (RR9.out.below (down_alloc (down_alloc (Below.refl _ _) _) _))
  have KB : readsAt ((w8.alloc (.cells #[.int .i64 0, .int .i64 9, .int .i64 0, .int .i64 0, .slice sa9 1 sc9, .slice (some ⟨fb9, fo9, none⟩) 1 fc9, .slice ha9 0 hc9, .int .i64 0, .int .u64 1, .int .i64 0] 34)).alloc (.cells #[.int .u64 1, .int .u64 1] 24)) (.slice (some ⟨w8.heap.size + 1, 0, none⟩) 2 2) 2 (wdL [1, 1]) := rd_reads (S := fun _ => False) (rd_row (rowAt.made_at (b := w8.heap.size + 1) 24 [.int .u64 1, .int .u64 1] (by rw [World.size_alloc])) (fun t => t) fun _ _ h => h)
  have KAH := Lib.hid KA
  have KBH := Lib.hid KB
  clear KA KB
  refine (keepWordsF_is (w := (w8.alloc (.cells #[.int .i64 0, .int .i64 9, .int .i64 0, .int .i64 0, .slice sa9 1 sc9, .slice (some ⟨fb9, fo9, none⟩) 1 fc9, .slice ha9 0 hc9, .int .i64 0, .int .u64 1, .int .i64 0] 34)).alloc (.cells #[.int .u64 1, .int .u64 1] 24)) (xs := [1, 1]) (ys := [1, 1]) (b := true) KAH.out KBH.out (by decide) rfl).mono ?_
  rintro e w9 ⟨rfl, q, rfl⟩
  go_wp2_with fail
  have KC : readsAt ((((w8.alloc (.cells #[.int .i64 0, .int .i64 9, .int .i64 0, .int .i64 0, .slice sa9 1 sc9, .slice (some ⟨fb9, fo9, none⟩) 1 fc9, .slice ha9 0 hc9, .int .i64 0, .int .u64 1, .int .i64 0] 34)).alloc (.cells #[.int .u64 1, .int .u64 1] 24)).drewN q).alloc (.cells #[.int .u64 9] 24)) (.slice sa9 1 sc9) 1 (wdL [9]) := rd_reads (S9.out.below (down_alloc (down_drewN (down_alloc (down_alloc (Below.refl _ _) _) _) _) _))
  have KD : readsAt ((((w8.alloc (.cells #[.int .i64 0, .int .i64 9, .int .i64 0, .int .i64 0, .slice sa9 1 sc9, .slice (some ⟨fb9, fo9, none⟩) 1 fc9, .slice ha9 0 hc9, .int .i64 0, .int .u64 1, .int .i64 0] 34)).alloc (.cells #[.int .u64 1, .int .u64 1] 24)).drewN q).alloc (.cells #[.int .u64 9] 24)) (.slice (some ⟨w8.heap.size + 1 + 1, 0, none⟩) 1 1) 1 (wdL [9]) := rd_reads (S := fun _ => False) (rd_row (rowAt.made_at (b := w8.heap.size + 1 + 1) 24 [.int .u64 9] (by simp [World.drewN])) (fun t => t) fun _ _ h => h)
  refine (keepWordsF_is (w := (((w8.alloc (.cells #[.int .i64 0, .int .i64 9, .int .i64 0, .int .i64 0, .slice sa9 1 sc9, .slice (some ⟨fb9, fo9, none⟩) 1 fc9, .slice ha9 0 hc9, .int .i64 0, .int .u64 1, .int .i64 0] 34)).alloc (.cells #[.int .u64 1, .int .u64 1] 24)).drewN q).alloc (.cells #[.int .u64 9] 24)) (xs := [9]) (ys := [9]) (b := true) KC KD (by decide) rfl).mono ?_
  rintro e w10 ⟨rfl, q2, rfl⟩
  have bY : Below w8.heap.size w8 ((((w8.alloc (.cells #[.int .i64 0, .int .i64 9, .int .i64 0, .int .i64 0, .slice sa9 1 sc9, .slice (some ⟨fb9, fo9, none⟩) 1 fc9, .slice ha9 0 hc9, .int .i64 0, .int .u64 1, .int .i64 0] 34)).alloc (.cells #[.int .u64 1, .int .u64 1] 24)).drewN q).alloc (.cells #[.int .u64 9] 24)) := down_alloc (down_drewN (down_alloc (down_alloc (Below.refl _ _) _) _) _) _
  have rY : rowAt ((((w8.alloc (.cells #[.int .i64 0, .int .i64 9, .int .i64 0, .int .i64 0, .slice sa9 1 sc9, .slice (some ⟨fb9, fo9, none⟩) 1 fc9, .slice ha9 0 hc9, .int .i64 0, .int .u64 1, .int .i64 0] 34)).alloc (.cells #[.int .u64 1, .int .u64 1] 24)).drewN q).alloc (.cells #[.int .u64 9] 24)) w8.heap.size 34 [.int .i64 0, .int .i64 9, .int .i64 0, .int .i64 0, .slice sa9 1 sc9, .slice (some ⟨fb9, fo9, none⟩) 1 fc9, .slice ha9 0 hc9, .int .i64 0, .int .u64 1, .int .i64 0] := rowAt.alloc (show rowAt (((w8.alloc (.cells #[.int .i64 0, .int .i64 9, .int .i64 0, .int .i64 0, .slice sa9 1 sc9, .slice (some ⟨fb9, fo9, none⟩) 1 fc9, .slice ha9 0 hc9, .int .i64 0, .int .u64 1, .int .i64 0] 34)).alloc (.cells #[.int .u64 1, .int .u64 1] 24)).drewN q) w8.heap.size 34 [.int .i64 0, .int .i64 9, .int .i64 0, .int .i64 0, .slice sa9 1 sc9, .slice (some ⟨fb9, fo9, none⟩) 1 fc9, .slice ha9 0 hc9, .int .i64 0, .int .u64 1, .int .i64 0] from (rowAt.made w8 34 [.int .i64 0, .int .i64 9, .int .i64 0, .int .i64 0, .slice sa9 1 sc9, .slice (some ⟨fb9, fo9, none⟩) 1 fc9, .slice ha9 0 hc9, .int .i64 0, .int .u64 1, .int .i64 0]).alloc _) _
  have f9 := (bY.cell (p := ⟨fb9, fo9 + 1, none⟩) hl9).trans hd9
  have CY := Lib.hid (down_call C9.out bY)
  obtain ⟨Y, hY⟩ : ∃ Y, (((w8.alloc (.cells #[.int .i64 0, .int .i64 9, .int .i64 0, .int .i64 0, .slice sa9 1 sc9, .slice (some ⟨fb9, fo9, none⟩) 1 fc9, .slice ha9 0 hc9, .int .i64 0, .int .u64 1, .int .i64 0] 34)).alloc (.cells #[.int .u64 1, .int .u64 1] 24)).drewN q).alloc (.cells #[.int .u64 9] 24) = Y := ⟨_, rfl⟩
  rw [hY] at bY rY f9 CY ⊢
  have r5 := (rY.cell 5).trans rfl
  have r6 := (rY.cell 6).trans rfl
  clear hY bY rY
  go_wp2_with fail
  go_ret
  exact ⟨rfl, down_drewN CY.out _⟩
end Go.Proofs.YtjkneniakeffnaaDoor
