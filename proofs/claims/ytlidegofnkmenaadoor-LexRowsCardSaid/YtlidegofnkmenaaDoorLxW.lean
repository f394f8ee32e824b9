/-
  Package lex: what the laws' closed part answers (wakes).
  Conditions: the tables of package lex and the library's variables read as the program's text lays them.
-/
import Derived.Test.YtlidegofnkmenaaDoorLxK
import Derived.Laws.StructEq
namespace Go.Proofs.YtlidegofnkmenaaDoor
open Go.ChangeShapes Go.WideShapes Go.ChangeAt Go.RowKit
set_option linter.unusedVariables false
set_option linter.unusedSimpArgs false
set_option maxRecDepth 100000
set_option maxHeartbeats 1000000

/-- Two tokens are one; two faults are one. -/
theorem run_tk_eq (w : World) (x1 x3 y1 y3 : Int) (s t : ByteArray) :
    (Op.equalIn 10000 39 (.agg #[.int .i64 x1, .string s, .int .i64 x3]) (.agg #[.int .i64 y1, .string t, .int .i64 y3])).run Tryd.prog w = .ok ((x1 == y1) && ((s.toList == t.toList) && (x3 == y3))) w := by
  have hu := Tryd.underlying39
  have he : Tryd.prog.underlying 3 = some (.int .i64) := by kernel_rfl
  have hes : Tryd.prog.underlying 9 = some .string := by kernel_rfl
  have hf : ∃ f0 f1 f2 : Field, (Tryd.prog.fieldsOf 39).toList = [f0, f1, f2] ∧ f0.name ≠ "_" ∧ f1.name ≠ "_" ∧ f2.name ≠ "_" ∧ f0.type = 3 ∧ f1.type = 9 ∧ f2.type = 3 ∧ f0.offset = 0 ∧ f1.offset = 1 ∧ f2.offset = 2 := by
    refine ⟨_, _, _, (by unfold Program.fieldsOf; rw [hu]), by decide, by decide, by decide, rfl, rfl, rfl, rfl, rfl, rfl⟩
  obtain ⟨f0, f1, f2, hl, n0, n1, n2, t0, t1, t2, o0, o1, o2⟩ := hf
  have p1 : ∀ w, (part 3 #[.int .i64 x1, .string s, .int .i64 x3] 0).run Tryd.prog w = .ok (.int .i64 x1) w := fun w => by kernel_rfl
  have p2 : ∀ w, (part 9 #[.int .i64 x1, .string s, .int .i64 x3] 1).run Tryd.prog w = .ok (.string s) w := fun w => by kernel_rfl
  have p3 : ∀ w, (part 3 #[.int .i64 x1, .string s, .int .i64 x3] 2).run Tryd.prog w = .ok (.int .i64 x3) w := fun w => by kernel_rfl
  have q1 : ∀ w, (part 3 #[.int .i64 y1, .string t, .int .i64 y3] 0).run Tryd.prog w = .ok (.int .i64 y1) w := fun w => by kernel_rfl
  have q2 : ∀ w, (part 9 #[.int .i64 y1, .string t, .int .i64 y3] 1).run Tryd.prog w = .ok (.string t) w := fun w => by kernel_rfl
  have q3 : ∀ w, (part 3 #[.int .i64 y1, .string t, .int .i64 y3] 2).run Tryd.prog w = .ok (.int .i64 y3) w := fun w => by kernel_rfl
  rw [run_equalIn_struct w 9999 39 _ _ (by rw [hu]; unfold Program.fieldsOf; rw [hu]) (by kernel_rfl), hl]
  simp only [Op.eqFields, n0, n1, n2, t0, t1, t2, o0, o1, o2, ne_eq, not_false_eq_true, if_true, Sem.run_bind, p1, p2, p3, q1, q2, q3, Result.andThen_ok, run_equalIn_int _ 9998 _ _ _ _ _ he, run_equalIn_string _ 9998 _ _ _ hes]
  cases h1 : x1 == y1 <;> cases h2 : s.toList == t.toList <;> cases h3 : x3 == y3 <;> simp [p2, p3, q2, q3, run_equalIn_int _ 9998 _ _ _ _ _ he, run_equalIn_string _ 9998 _ _ _ hes, h1, h2, h3]
theorem run_flt_eq (w : World) (x1 x2 y1 y2 : Int) :
    (Op.equalIn 10000 26 (.agg #[.int .i64 x1, .int .i64 x2]) (.agg #[.int .i64 y1, .int .i64 y2])).run Tryd.prog w = .ok ((x1 == y1) && (x2 == y2)) w := by
  have hu := Tryd.underlying26
  have he : Tryd.prog.underlying 3 = some (.int .i64) := by kernel_rfl
  have heE : Tryd.prog.underlying 24 = some (.int .i64) := by kernel_rfl
  have hf : ∃ f0 f1 : Field, (Tryd.prog.fieldsOf 26).toList = [f0, f1] ∧ f0.name ≠ "_" ∧ f1.name ≠ "_" ∧ f0.type = 24 ∧ f1.type = 3 ∧ f0.offset = 0 ∧ f1.offset = 1 := by
    refine ⟨_, _, (by unfold Program.fieldsOf; rw [hu]), by decide, by decide, rfl, rfl, rfl, rfl⟩
  obtain ⟨f0, f1, hl, n0, n1, t0, t1, o0, o1⟩ := hf
  have p1 : ∀ w, (part 24 #[.int .i64 x1, .int .i64 x2] 0).run Tryd.prog w = .ok (.int .i64 x1) w := fun w => by kernel_rfl
  have p2 : ∀ w, (part 3 #[.int .i64 x1, .int .i64 x2] 1).run Tryd.prog w = .ok (.int .i64 x2) w := fun w => by kernel_rfl
  have q1 : ∀ w, (part 24 #[.int .i64 y1, .int .i64 y2] 0).run Tryd.prog w = .ok (.int .i64 y1) w := fun w => by kernel_rfl
  have q2 : ∀ w, (part 3 #[.int .i64 y1, .int .i64 y2] 1).run Tryd.prog w = .ok (.int .i64 y2) w := fun w => by kernel_rfl
  rw [run_equalIn_struct w 9999 26 _ _ (by rw [hu]; unfold Program.fieldsOf; rw [hu]) (by kernel_rfl), hl]
  simp only [Op.eqFields, n0, n1, t0, t1, o0, o1, ne_eq, not_false_eq_true, if_true, Sem.run_bind, p1, p2, q1, q2, Result.andThen_ok, run_equalIn_int _ 9998 _ _ _ _ _ he, run_equalIn_int _ 9998 _ _ _ _ _ heE]
  cases h1 : x1 == y1 <;> cases h2 : x2 == y2 <;> simp [p2, q2, run_equalIn_int _ 9998 _ _ _ _ _ he, run_equalIn_int _ 9998 _ _ _ _ _ heE, h1, h2]

theorem tokens_is {s : ByteArray} {D : List PTk} {E : Int} {A n : Nat} (hs : s.size ≤ 100000) (hE : tkE (Ls s) = E) (hA : tkA (Ls s) = A) (hD : tkL (Ls s) = D) (hn : D.length = n) (w : World) (T : LxTab w) :
    Calls Tryd.prog 10 #[.string s] w fun e w' => ∃ a c, e = .returned (.tuple #[.slice a n c, .agg #[.int .i64 E, .int .i64 A]]) ∧ w'.ownsRow w.heap.size 39 3 (.slice a n c) n (tkLs D) ∧ Below w.heap.size w w' := by
  refine (tokens_any s hs w T).mono ?_
  rintro e w' ⟨v, rfl, ho, hb⟩
  subst hE; subst hA; subst hD; subst hn
  obtain ⟨a, c, rfl⟩ := owns_slice ho
  exact ⟨a, c, rfl, ho, hb⟩
theorem quote_is {s b : ByteArray} {o : Bool} (hs : s.size ≤ 100000) (hq : quP (Ls s) = Ls b) (ho : quO (Ls s) = o) (w : World) :
    Calls Tryd.prog 12 #[.string s] w fun e w' => e = .returned (.tuple #[.string b, .bool o]) ∧ Below w.heap.size w w' :=
  (quote_any s hs w).mono fun e w' ⟨he, hb⟩ => ⟨by rw [he]; unfold quV; rw [hq, ho], hb⟩
theorem isName_is {s : ByteArray} {b : Bool} (hs : s.size ≤ 100000) (h : isAll (Ls s) 1 = b) (w : World) (T : LxTab w) : Calls Tryd.prog 15 #[.string s] w fun e w' => e = .returned (.bool b) ∧ Below w.heap.size w w' := by subst h; exact isName_any s hs w T
theorem isCon_is {s : ByteArray} {b : Bool} (hs : s.size ≤ 100000) (h : isAll (Ls s) 2 = b) (w : World) (T : LxTab w) : Calls Tryd.prog 17 #[.string s] w fun e w' => e = .returned (.bool b) ∧ Below w.heap.size w w' := by subst h; exact isCon_any s hs w T
/-- A row's cells, by a token's place. -/
theorem tok_cells {w : World} {B : Nat} {a : Option Addr} {n c : Nat} {D : List PTk} (h : w.ownsRow B 39 3 (.slice a n c) n (tkLs D)) (hn : 0 < n) : ∃ g, a = some ⟨g, 0, none⟩ ∧ B ≤ g ∧ g < w.heap.size ∧ n ≤ c ∧
    ∀ j u, (tkLs D)[j]? = some u → w.cell? ⟨g, j, none⟩ = some u := by
  rcases owns_parts h with ⟨e, h1, h2⟩ | ⟨g, cap, rest, e, hg, hr, e1, e2, e3, e4⟩
  · cases e; omega
  · cases e
    refine ⟨g, rfl, hg, hr.lt, e3, fun j u hj => ?_⟩
    rw [hr.cell, List.getElem?_append_left (List.getElem?_eq_some_iff.1 hj).1]
    exact hj

def d1 : List PTk := tkL (Ls (⟨#[108, 101, 116, 32, 120, 95, 49, 32, 61, 32, 34, 97, 92, 110, 34, 32, 35, 32, 110, 10, 58, 58, 78, 105, 108, 45, 62, 95]⟩ : ByteArray))
theorem d1_len : d1.length = 8 := by decide +kernel
theorem d1_1 : d1[1]? = some (1, [120, 95, 49], 4) := by decide +kernel
theorem d1_3 : d1[3]? = some (4, [97, 10], 10) := by decide +kernel
theorem d1_5 : d1[5]? = some (2, [78, 105, 108], 22) := by decide +kernel
theorem d1_6 : d1[6]? = some (6, [45, 62], 25) := by decide +kernel
theorem d1_7 : d1[7]? = some (6, [95], 27) := by decide +kernel
theorem s0_E : tkE (Ls (⟨#[108, 101, 116, 32, 120, 95, 49, 32, 61, 32, 34, 97, 92, 110, 34, 32, 35, 32, 110, 10, 58, 58, 78, 105, 108, 45, 62, 95]⟩ : ByteArray)) = 0 := by decide +kernel
theorem s0_A : tkA (Ls (⟨#[108, 101, 116, 32, 120, 95, 49, 32, 61, 32, 34, 97, 92, 110, 34, 32, 35, 32, 110, 10, 58, 58, 78, 105, 108, 45, 62, 95]⟩ : ByteArray)) = 0 := by decide +kernel
theorem s1_E : tkE (Ls (⟨#[97, 32, 49, 120]⟩ : ByteArray)) = 11 := by decide +kernel
theorem s1_A : tkA (Ls (⟨#[97, 32, 49, 120]⟩ : ByteArray)) = 2 := by decide +kernel
theorem s2_E : tkE (Ls (⟨#[34, 97]⟩ : ByteArray)) = 11 := by decide +kernel
theorem s2_A : tkA (Ls (⟨#[34, 97]⟩ : ByteArray)) = 0 := by decide +kernel
theorem s3_E : tkE (Ls (⟨#[120, 32, 58, 32, 121]⟩ : ByteArray)) = 11 := by decide +kernel
theorem s3_A : tkA (Ls (⟨#[120, 32, 58, 32, 121]⟩ : ByteArray)) = 2 := by decide +kernel
theorem wakes_any (w : World) (T : LxTab w) :
    Calls Tryd.prog 9 #[] w fun e w' => e = .returned (.bool true) ∧ Below w.heap.size w w' := by
  have HT := Lib.hid T
  clear T
  go_enter Tryd.func9, Tryd.ntmps9
  go_wp2_with fail
  refine (tokens_is (s := ⟨#[108, 101, 116, 32, 120, 95, 49, 32, 61, 32, 34, 97, 92, 110, 34, 32, 35, 32, 110, 10, 58, 58, 78, 105, 108, 45, 62, 95]⟩) (D := d1) (n := 8) (by decide) s0_E s0_A rfl d1_len _ HT.out).mono ?_
  rintro e w0 ⟨a0, c0, rfl, ho, hb⟩
  have hv := Lib.hid (hb.alloc hb.size (.cells #[.int .i64 0, .int .i64 0] 26))
  have hr := flt_made w0 (.int .i64 0) (.int .i64 0)
  have HO := owns_upon ho (Upon.of_below (S := fun _ => False) ((Below.refl w0.heap.size w0).alloc (Nat.le_refl _) (.cells #[.int .i64 0, .int .i64 0] 26))) fun _ _ t => t
  obtain ⟨V0, hV0⟩ : ∃ V, w0.alloc (.cells #[.int .i64 0, .int .i64 0] 26) = V := ⟨_, rfl⟩
  rw [hV0] at hv hr HO
  have B0 := Lib.hid (below_chain (Below.refl _ _) hv.out)
  have R0 := Lib.hid hr
  have HV := Lib.hid hV0
  clear ho hb hv hr hV0
  go_wp2_with fail
  rw [HV.out]
  clear HV
  refine (tokens_is (s := ⟨#[97, 32, 49, 120]⟩) (D := _) (n := 0) (by decide) s1_E s1_A rfl (by decide +kernel) _ (HT.out.below B0.out)).mono ?_
  rintro e w1 ⟨a1, c1, rfl, ho, hb⟩
  have hv := Lib.hid (hb.alloc hb.size (.cells #[.int .i64 11, .int .i64 2] 26))
  have hr := flt_made w1 (.int .i64 11) (.int .i64 2)
  obtain ⟨V1, hV1⟩ : ∃ V, w1.alloc (.cells #[.int .i64 11, .int .i64 2] 26) = V := ⟨_, rfl⟩
  rw [hV1] at hv hr
  have B1 := Lib.hid (below_chain B0.out hv.out)
  have R1 := Lib.hid hr
  replace R0 := Lib.hid (R0.out.below hv.out R0.out.lt)
  replace HO := owns_upon HO (Upon.of_below (S := fun _ => False) hv.out) fun _ _ t => t
  have HV := Lib.hid hV1
  clear ho hb hv hr hV1
  go_wp2_with fail
  rw [HV.out]
  clear HV
  refine (tokens_is (s := ⟨#[34, 97]⟩) (D := _) (n := 0) (by decide) s2_E s2_A rfl (by decide +kernel) _ (HT.out.below B1.out)).mono ?_
  rintro e w2 ⟨a2, c2, rfl, ho, hb⟩
  have hv := Lib.hid (hb.alloc hb.size (.cells #[.int .i64 11, .int .i64 0] 26))
  have hr := flt_made w2 (.int .i64 11) (.int .i64 0)
  obtain ⟨V2, hV2⟩ : ∃ V, w2.alloc (.cells #[.int .i64 11, .int .i64 0] 26) = V := ⟨_, rfl⟩
  rw [hV2] at hv hr
  have B2 := Lib.hid (below_chain B1.out hv.out)
  have R2 := Lib.hid hr
  replace R0 := Lib.hid (R0.out.below hv.out R0.out.lt)
  replace R1 := Lib.hid (R1.out.below hv.out R1.out.lt)
  replace HO := owns_upon HO (Upon.of_below (S := fun _ => False) hv.out) fun _ _ t => t
  have HV := Lib.hid hV2
  clear ho hb hv hr hV2
  go_wp2_with fail
  rw [HV.out]
  clear HV
  refine (tokens_is (s := ⟨#[120, 32, 58, 32, 121]⟩) (D := _) (n := 0) (by decide) s3_E s3_A rfl (by decide +kernel) _ (HT.out.below B2.out)).mono ?_
  rintro e w3 ⟨a3, c3, rfl, ho, hb⟩
  have hv := Lib.hid (hb.alloc hb.size (.cells #[.int .i64 11, .int .i64 2] 26))
  have hr := flt_made w3 (.int .i64 11) (.int .i64 2)
  obtain ⟨V3, hV3⟩ : ∃ V, w3.alloc (.cells #[.int .i64 11, .int .i64 2] 26) = V := ⟨_, rfl⟩
  rw [hV3] at hv hr
  have B3 := Lib.hid (below_chain B2.out hv.out)
  have R3 := Lib.hid hr
  replace R0 := Lib.hid (R0.out.below hv.out R0.out.lt)
  replace R1 := Lib.hid (R1.out.below hv.out R1.out.lt)
  replace R2 := Lib.hid (R2.out.below hv.out R2.out.lt)
  replace HO := owns_upon HO (Upon.of_below (S := fun _ => False) hv.out) fun _ _ t => t
  have HV := Lib.hid hV3
  clear ho hb hv hr hV3
  go_wp2_with fail
  rw [HV.out]
  clear HV
  refine (quote_is (s := ⟨#[97, 34, 10]⟩) (b := ⟨#[34, 97, 92, 34, 92, 110, 34]⟩) (o := true) (by decide) (by decide +kernel) (by decide +kernel) _).mono ?_
  rintro e V4 ⟨rfl, hb⟩
  have B4 := Lib.hid (below_chain B3.out hb)
  replace R0 := Lib.hid (R0.out.below hb R0.out.lt)
  replace R1 := Lib.hid (R1.out.below hb R1.out.lt)
  replace R2 := Lib.hid (R2.out.below hb R2.out.lt)
  replace R3 := Lib.hid (R3.out.below hb R3.out.lt)
  replace HO := owns_upon HO (Upon.of_below (S := fun _ => False) hb) fun _ _ t => t
  clear hb
  go_wp2_with fail
  refine (quote_is (s := ⟨#[1]⟩) (b := ⟨#[]⟩) (o := false) (by decide) (by decide +kernel) (by decide +kernel) _).mono ?_
  rintro e V5 ⟨rfl, hb⟩
  have B5 := Lib.hid (below_chain B4.out hb)
  replace R0 := Lib.hid (R0.out.below hb R0.out.lt)
  replace R1 := Lib.hid (R1.out.below hb R1.out.lt)
  replace R2 := Lib.hid (R2.out.below hb R2.out.lt)
  replace R3 := Lib.hid (R3.out.below hb R3.out.lt)
  replace HO := owns_upon HO (Upon.of_below (S := fun _ => False) hb) fun _ _ t => t
  clear hb
  obtain ⟨g, rfl, -, -, hn8, hc⟩ := tok_cells HO (by decide)
  obtain ⟨x1, y1, z1⟩ := tkLs_get d1 1 _ d1_1
  replace x1 := hc _ _ x1
  replace y1 := hc _ _ y1
  replace z1 := hc _ _ z1
  simp only [Nat.reduceMul, Nat.reduceAdd] at x1 y1 z1
  obtain ⟨x3, y3, z3⟩ := tkLs_get d1 3 _ d1_3
  replace x3 := hc _ _ x3
  replace y3 := hc _ _ y3
  replace z3 := hc _ _ z3
  simp only [Nat.reduceMul, Nat.reduceAdd] at x3 y3 z3
  obtain ⟨x5, y5, z5⟩ := tkLs_get d1 5 _ d1_5
  replace x5 := hc _ _ x5
  replace y5 := hc _ _ y5
  replace z5 := hc _ _ z5
  simp only [Nat.reduceMul, Nat.reduceAdd] at x5 y5 z5
  obtain ⟨x6, y6, z6⟩ := tkLs_get d1 6 _ d1_6
  replace x6 := hc _ _ x6
  replace y6 := hc _ _ y6
  replace z6 := hc _ _ z6
  simp only [Nat.reduceMul, Nat.reduceAdd] at x6 y6 z6
  obtain ⟨x7, y7, z7⟩ := tkLs_get d1 7 _ d1_7
  replace x7 := hc _ _ x7
  replace y7 := hc _ _ y7
  replace z7 := hc _ _ z7
  simp only [Nat.reduceMul, Nat.reduceAdd] at x7 y7 z7
  have u0 := R0.out.cell 0; have v0 := R0.out.cell 1
  simp only [List.getElem?_cons_zero, List.getElem?_cons_succ] at u0 v0
  have u1 := R1.out.cell 0; have v1 := R1.out.cell 1
  simp only [List.getElem?_cons_zero, List.getElem?_cons_succ] at u1 v1
  have u2 := R2.out.cell 0; have v2 := R2.out.cell 1
  simp only [List.getElem?_cons_zero, List.getElem?_cons_succ] at u2 v2
  have u3 := R3.out.cell 0; have v3 := R3.out.cell 1
  simp only [List.getElem?_cons_zero, List.getElem?_cons_succ] at u3 v3
  clear hc HO
  have TE := run_tk_eq
  have FE := run_flt_eq
  go_wp2_with fail
  clear TE FE x1 y1 z1 x3 y3 z3 x5 y5 z5 x6 y6 z6 x7 y7 z7 u0 v0 u1 v1 u2 v2 u3 v3
  refine (isName_is (s := ⟨#[120]⟩) (b := true) (by decide) (by decide +kernel) _ (HT.out.below B5.out)).mono ?_
  rintro e V6 ⟨rfl, hb⟩
  have B6 := Lib.hid (below_chain B5.out hb)
  clear hb
  go_wp2_with fail
  refine (isName_is (s := ⟨#[108, 101, 116]⟩) (b := false) (by decide) (by decide +kernel) _ (HT.out.below B6.out)).mono ?_
  rintro e V7 ⟨rfl, hb⟩
  have B7 := Lib.hid (below_chain B6.out hb)
  clear hb
  go_wp2_with fail
  refine (isCon_is (s := ⟨#[78, 105, 108]⟩) (b := true) (by decide) (by decide +kernel) _ (HT.out.below B7.out)).mono ?_
  rintro e V8 ⟨rfl, hb⟩
  have B8 := Lib.hid (below_chain B7.out hb)
  clear hb
  go_wp2_with fail
  refine (isCon_is (s := ⟨#[110, 105, 108]⟩) (b := false) (by decide) (by decide +kernel) _ (HT.out.below B8.out)).mono ?_
  rintro e V9 ⟨rfl, hb⟩
  have B9 := Lib.hid (below_chain B8.out hb)
  clear hb
  go_wp2_with fail
  go_ret
  exact ⟨rfl, B9.out⟩
end Go.Proofs.YtlidegofnkmenaaDoor
