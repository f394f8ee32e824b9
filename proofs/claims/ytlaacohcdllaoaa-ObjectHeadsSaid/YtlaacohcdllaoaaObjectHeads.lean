/-
  Law ObjectHeads: a head tells kind, tag and size; words are the head's and the fields', of a text one for each eight bytes.
  Conditions: none.
-/
import Derived.Test.YtlaacohcdllaoaaWakO
import Derived.Test.YtlaacohcdllaoaaRefMay
import Derived.Test.YtlaacohcdllaoaaArgsO
import Derived.Deep.DeepCutAuto
import Derived.Deep.CutBlock
namespace Go.Proofs.Ytlaacohcdllaoaa.objectHeads
open Go.ChangeShapes Go.WideShapes Go.ChangeAt Go.RowKit
set_option linter.unusedVariables false
set_option linter.unusedSimpArgs false
set_option linter.unusedVariables false
set_option maxRecDepth 100000

theorem own : ownKnob Try.prog.godebug = none := by kernel_rfl
theorem laidOut : laidOutB Try.prog = true := by kernel_rfl

theorem head_eq (k t : Int) (nf nt : Nat) (h : headR k t nf nt = true) : 0 ≤ headWR k t nf nt ∧ headWR k t nf nt < 18446744073709551616 ∧ headWR k t nf nt % 256 = k := by
  have h' := h
  simp only [headR, Bool.and_eq_true] at h'
  have hb := mayH_bounds h'.2
  rw [headWR, if_pos h]
  unfold headW
  omega
theorem head_same (k t k2 t2 : Int) (nf nt nf2 nt2 : Nat) (h : headR k t nf nt = true) (h2 : headR k2 t2 nf2 nt2 = true) :
    (headWR k t nf nt == headWR k2 t2 nf2 nt2) = decide (k = k2 ∧ t = t2 ∧ nf = nf2 ∧ nt = nt2) := by
  have a := h
  have b := h2
  simp only [headR, Bool.and_eq_true] at a b
  have ha := mayH_bounds a.2
  have hb := mayH_bounds b.2
  rw [headWR, headWR, if_pos h, if_pos h2]
  have e : (headW k t (sizeH k nf nt) == headW k2 t2 (sizeH k2 nf2 nt2)) = decide (headW k t (sizeH k nf nt) = headW k2 t2 (sizeH k2 nf2 nt2)) := rfl
  rw [e]
  apply decide_eq_decide.2
  have h1 := a.1
  have h3 := b.1
  constructor
  · intro e
    have e1 : k = k2 ∧ t = t2 ∧ sizeH k nf nt = sizeH k2 nf2 nt2 := by
      unfold headW at e
      omega
    obtain ⟨rfl, rfl, e3⟩ := e1
    unfold hasH at h1 h3
    unfold sizeH at e3
    split at h1 <;> rename_i hk <;> simp only [hk, if_true, if_false, decide_eq_true_eq] at h1 h3 e3 <;> omega
  · rintro ⟨rfl, rfl, rfl, rfl⟩
    rfl

def sameO (k t k2 t2 : Int) (nf nt nf2 nt2 : Nat) : Bool := decide (k = k2 ∧ t = t2 ∧ nf = nf2 ∧ nt = nt2)
def NumO (n : Nat) (w0 : World) (v : Value) (w : World) : Prop := v = .int .i64 (n : Int) ∧ w = w0

set_option maxRecDepth 100000 in
set_option maxHeartbeats 16000000 in
theorem both_f (k t : Int) (a : Option Addr) (nf c : Nat) (s : ByteArray) (k2 t2 : Int) (a2 : Option Addr) (nf2 c2 : Nat) (s2 : ByteArray) (w : World) (h1 : nf ≤ 600 ∧ s.size ≤ 800) (h2 : nf2 ≤ 600 ∧ s2.size ≤ 800) (hr : headR k t nf s.size = true) (hr2 : headR k2 t2 nf2 s2.size = true) (hk : k ≠ 2) :
    Calls Try.prog 6 #[obj k t a nf c s, obj k2 t2 a2 nf2 c2 s2] w fun e w' => e = .returned (.bool true) ∧ Below w.heap.size w w' := by
  have HL1 := Lib.hid (long_any k t a nf c s)
  have HL2 := Lib.hid (long_any k2 t2 a2 nf2 c2 s2)
  rw [decide_eq_false (by omega)] at HL1 HL2
  have HH1 := Lib.hid (ohead_any k t a nf c s)
  have HH2 := Lib.hid (ohead_any k2 t2 a2 nf2 c2 s2)
  have HM1 := Lib.hid (refMay_any k t a nf c s)
  have HM2 := Lib.hid (refMay_any k2 t2 a2 nf2 c2 s2)
  have HW := Lib.hid (owords_any k t a nf c s)
  rw [hr] at HH1 HM1
  rw [hr2] at HH2 HM2
  have hq := head_eq k t nf s.size hr
  have HS := Lib.hid (head_same k t k2 t2 nf s.size nf2 s2.size hr hr2)
  have HWR : Hid (wordsR k t nf s.size = 1 + longH k (sizeH k nf s.size)) := by show _ = _; rw [wordsR, if_pos hr]
  clear hr hr2
  have hkb : (k == 2) = false := by simpa using hk
  have HNN : Hid (((wordsR k t nf s.size : Nat) : Int) == 1 + (nf : Int)) := by
    show (((wordsR k t nf s.size : Nat) : Int) == 1 + (nf : Int)) = true
    rw [HWR.out]
    simp [longH, sizeH, hk]
  clear hk
  generalize headWR k t nf s.size = X at *
  generalize headWR k2 t2 nf2 s2.size = X2 at *
  generalize wordsR k t nf s.size = N at *
  obtain ⟨hq0, hq1, hq2⟩ := hq
  have HXK : Hid ((X % 256 == k) = true) := by show _ = _; rw [hq2]; simp
  clear hq2
  go_enter Try.func6, Try.ntmps6
  go_wp2_with fail
  refine (HL1.out _).mono ?_
  rintro e w1 ⟨rfl, b1⟩
  have R2 : Hid (rowAt w1 w.heap.size 28 [.int .i64 k, .int .i64 t, .slice a nf c, .string s]) := ((rowAt.made w _ _).alloc _).below b1 (by simp <;> omega)
  have R3 : Hid (rowAt w1 (w.heap.size + 1) 28 [.int .i64 k2, .int .i64 t2, .slice a2 nf2 c2, .string s2]) := (rowAt.made_at (w := w.alloc _) _ _ (by simp)).below b1 (by simp)
  have HB1 : Hid (Below w.heap.size w w1) := bl_call (bl_alloc (bl_alloc (Below.refl _ _) _) _) b1
  clear b1
  have x0 := R2.out.cell 0
  have x1 := R2.out.cell 1
  have x2 := R2.out.cell 2
  have x3 := R2.out.cell 3
  have y0 := R3.out.cell 0
  have y1 := R3.out.cell 1
  have y2 := R3.out.cell 2
  have y3 := R3.out.cell 3
  have l2 := R2.out.lt
  have l3 := R3.out.lt
  simp only [List.getElem?_cons_zero, List.getElem?_cons_succ] at x0 x1 x2 x3 y0 y1 y2 y3
  go_wp2_with fail
  refine (HL2.out _).mono ?_
  rintro e w2 ⟨rfl, b2⟩
  have HBn := Lib.hid (bl_call HB1.out b2)
  have R2n := Lib.hid (R2.out.below b2 R2.out.lt)
  have R3n := Lib.hid (R3.out.below b2 R3.out.lt)
  clear x0 x1 x2 x3 y0 y1 y2 y3 l2 l3 b2 R2 R3 HB1
  have R2 := R2n
  have R3 := R3n
  have HB1 := HBn
  clear R2n R3n HBn
  have x0 := R2.out.cell 0
  have x1 := R2.out.cell 1
  have x2 := R2.out.cell 2
  have x3 := R2.out.cell 3
  have y0 := R3.out.cell 0
  have y1 := R3.out.cell 1
  have y2 := R3.out.cell 2
  have y3 := R3.out.cell 3
  have l2 := R2.out.lt
  have l3 := R3.out.lt
  simp only [List.getElem?_cons_zero, List.getElem?_cons_succ] at x0 x1 x2 x3 y0 y1 y2 y3
  go_wp2_with fail
  refine (HH1.out _).mono ?_
  rintro e w3 ⟨rfl, b3⟩
  have HBn := Lib.hid (bl_call HB1.out b3)
  have R2n := Lib.hid (R2.out.below b3 R2.out.lt)
  have R3n := Lib.hid (R3.out.below b3 R3.out.lt)
  clear x0 x1 x2 x3 y0 y1 y2 y3 l2 l3 b3 R2 R3 HB1
  have R2 := R2n
  have R3 := R3n
  have HB1 := HBn
  clear R2n R3n HBn
  have x0 := R2.out.cell 0
  have x1 := R2.out.cell 1
  have x2 := R2.out.cell 2
  have x3 := R2.out.cell 3
  have y0 := R3.out.cell 0
  have y1 := R3.out.cell 1
  have y2 := R3.out.cell 2
  have y3 := R3.out.cell 3
  have l2 := R2.out.lt
  have l3 := R3.out.lt
  simp only [List.getElem?_cons_zero, List.getElem?_cons_succ] at x0 x1 x2 x3 y0 y1 y2 y3
  go_wp2_with fail
  refine (HH2.out _).mono ?_
  rintro e w4 ⟨rfl, b4⟩
  have HBn := Lib.hid (bl_call HB1.out b4)
  have R2n := Lib.hid (R2.out.below b4 R2.out.lt)
  have R3n := Lib.hid (R3.out.below b4 R3.out.lt)
  clear x0 x1 x2 x3 y0 y1 y2 y3 l2 l3 b4 R2 R3 HB1
  have R2 := R2n
  have R3 := R3n
  have HB1 := HBn
  clear R2n R3n HBn
  have x0 := R2.out.cell 0
  have x1 := R2.out.cell 1
  have x2 := R2.out.cell 2
  have x3 := R2.out.cell 3
  have y0 := R3.out.cell 0
  have y1 := R3.out.cell 1
  have y2 := R3.out.cell 2
  have y3 := R3.out.cell 3
  have l2 := R2.out.lt
  have l3 := R3.out.lt
  simp only [List.getElem?_cons_zero, List.getElem?_cons_succ] at x0 x1 x2 x3 y0 y1 y2 y3
  go_wp2_with fail
  refine (HM1.out _).mono ?_
  rintro e w5 ⟨rfl, b5⟩
  have HBn := Lib.hid (bl_call HB1.out b5)
  have R2n := Lib.hid (R2.out.below b5 R2.out.lt)
  have R3n := Lib.hid (R3.out.below b5 R3.out.lt)
  clear x0 x1 x2 x3 y0 y1 y2 y3 l2 l3 b5 R2 R3 HB1
  have R2 := R2n
  have R3 := R3n
  have HB1 := HBn
  clear R2n R3n HBn
  have x0 := R2.out.cell 0
  have x1 := R2.out.cell 1
  have x2 := R2.out.cell 2
  have x3 := R2.out.cell 3
  have y0 := R3.out.cell 0
  have y1 := R3.out.cell 1
  have y2 := R3.out.cell 2
  have y3 := R3.out.cell 3
  have l2 := R2.out.lt
  have l3 := R3.out.lt
  simp only [List.getElem?_cons_zero, List.getElem?_cons_succ] at x0 x1 x2 x3 y0 y1 y2 y3
  go_wp2_with fail
  refine (HM2.out _).mono ?_
  rintro e w6 ⟨rfl, b6⟩
  have HBn := Lib.hid (bl_call HB1.out b6)
  have R2n := Lib.hid (R2.out.below b6 R2.out.lt)
  have R3n := Lib.hid (R3.out.below b6 R3.out.lt)
  clear x0 x1 x2 x3 y0 y1 y2 y3 l2 l3 b6 R2 R3 HB1
  have R2 := R2n
  have R3 := R3n
  have HB1 := HBn
  clear R2n R3n HBn
  have x0 := R2.out.cell 0
  have x1 := R2.out.cell 1
  have x2 := R2.out.cell 2
  have x3 := R2.out.cell 3
  have y0 := R3.out.cell 0
  have y1 := R3.out.cell 1
  have y2 := R3.out.cell 2
  have y3 := R3.out.cell 3
  have l2 := R2.out.lt
  have l3 := R3.out.lt
  simp only [List.getElem?_cons_zero, List.getElem?_cons_succ] at x0 x1 x2 x3 y0 y1 y2 y3
  have HC : Hid (∀ i : Nat, True) := fun _ => trivial
  go_upto_region 9 with fail
  go_cut [9] (fun v wx => v = .bool (sameO k t k2 t2 nf s.size nf2 s2.size) ∧ wx = w6)
  case first =>
    by_cases e1 : k = k2
    · subst e1
      by_cases e2 : t = t2
      · subst e2
        by_cases e3 : nf = nf2
        · subst e3
          go_wp2
          go_meet
          refine ⟨congrArg Value.bool ?_, rfl⟩
          unfold sameO
          rw [Bool.eq_iff_iff]
          simp
          try omega
        · have e3b : ((nf : Int) == (nf2 : Int)) = false := by simp; omega
          have E3 := Lib.hid e3
          clear e3
          go_wp2
          go_meet
          refine ⟨congrArg Value.bool ?_, rfl⟩
          unfold sameO
          symm
          exact decide_eq_false (by have := E3.out; omega)
      · have e2b : (t == t2) = false := by simpa using e2
        have E2 := Lib.hid e2
        clear e2
        go_wp2
        go_meet
        refine ⟨congrArg Value.bool ?_, rfl⟩
        unfold sameO
        symm
        exact decide_eq_false (by have := E2.out; omega)
    · have e1b : (k == k2) = false := by simpa using e1
      have E1 := Lib.hid e1
      clear e1
      go_wp2
      go_meet
      refine ⟨congrArg Value.bool ?_, rfl⟩
      unfold sameO
      symm
      exact decide_eq_false (by have := E1.out; omega)
  case rest =>
    obtain ⟨rfl, rfl⟩ := hcut
    go_wp2_with fail
    go_upto_region 15 with fail
    have hxx := HS.out
    have hnn := HNN.out
    have hxk := HXK.out
    change (X == X2) = sameO k t k2 t2 nf s.size nf2 s2.size at hxx
    go_wp2_with fail
    refine (HW.out _).mono ?_
    rintro e w7 ⟨rfl, b7⟩
    have HB7 := Lib.hid (bl_call HB1.out b7)
    have r2 := R2.out.below b7 R2.out.lt
    clear x0 x1 x2 x3 y0 y1 y2 y3 l2 l3
    have x0 := r2.cell 0
    have l2 := r2.lt
    simp only [List.getElem?_cons_zero] at x0
    clear b7 r2
    go_wp2_with fail
    refine (wakes_any _).mono ?_
    rintro e w8 ⟨rfl, b8⟩
    go_wp2
    go_ret
    exact ⟨rfl, bl_call HB7.out b8⟩
set_option maxRecDepth 100000 in
set_option maxHeartbeats 16000000 in
theorem both_0 (k t : Int) (a : Option Addr) (nf c : Nat) (s : ByteArray) (k2 t2 : Int) (a2 : Option Addr) (nf2 c2 : Nat) (s2 : ByteArray) (w : World) (h1 : nf ≤ 600 ∧ s.size ≤ 800) (h2 : nf2 ≤ 600 ∧ s2.size ≤ 800) (hr : headR k t nf s.size = true) (hr2 : headR k2 t2 nf2 s2.size = true) (hk : k = 2) (hm : s.size % 8 = 0) :
    Calls Try.prog 6 #[obj k t a nf c s, obj k2 t2 a2 nf2 c2 s2] w fun e w' => e = .returned (.bool true) ∧ Below w.heap.size w w' := by
  have HL1 := Lib.hid (long_any k t a nf c s)
  have HL2 := Lib.hid (long_any k2 t2 a2 nf2 c2 s2)
  rw [decide_eq_false (by omega)] at HL1 HL2
  have HH1 := Lib.hid (ohead_any k t a nf c s)
  have HH2 := Lib.hid (ohead_any k2 t2 a2 nf2 c2 s2)
  have HM1 := Lib.hid (refMay_any k t a nf c s)
  have HM2 := Lib.hid (refMay_any k2 t2 a2 nf2 c2 s2)
  have HW := Lib.hid (owords_any k t a nf c s)
  rw [hr] at HH1 HM1
  rw [hr2] at HH2 HM2
  have hq := head_eq k t nf s.size hr
  have HS := Lib.hid (head_same k t k2 t2 nf s.size nf2 s2.size hr hr2)
  have HWR : Hid (wordsR k t nf s.size = 1 + longH k (sizeH k nf s.size)) := by show _ = _; rw [wordsR, if_pos hr]
  clear hr hr2
  have hkb : (k == 2) = true := by simpa using hk
  have hmb : ((s.size : Int) % 8 != 0) = false := by simp; omega
  have HNN : Hid (((wordsR k t nf s.size : Nat) : Int) == 1 + (s.size : Int) / 8) := by
    show (((wordsR k t nf s.size : Nat) : Int) == 1 + (s.size : Int) / 8) = true
    rw [HWR.out]
    simp [longH, sizeH, hk]
    omega
  clear hk hm
  generalize headWR k t nf s.size = X at *
  generalize headWR k2 t2 nf2 s2.size = X2 at *
  generalize wordsR k t nf s.size = N at *
  obtain ⟨hq0, hq1, hq2⟩ := hq
  have HXK : Hid ((X % 256 == k) = true) := by show _ = _; rw [hq2]; simp
  clear hq2
  go_enter Try.func6, Try.ntmps6
  go_wp2_with fail
  refine (HL1.out _).mono ?_
  rintro e w1 ⟨rfl, b1⟩
  have R2 : Hid (rowAt w1 w.heap.size 28 [.int .i64 k, .int .i64 t, .slice a nf c, .string s]) := ((rowAt.made w _ _).alloc _).below b1 (by simp <;> omega)
  have R3 : Hid (rowAt w1 (w.heap.size + 1) 28 [.int .i64 k2, .int .i64 t2, .slice a2 nf2 c2, .string s2]) := (rowAt.made_at (w := w.alloc _) _ _ (by simp)).below b1 (by simp)
  have HB1 : Hid (Below w.heap.size w w1) := bl_call (bl_alloc (bl_alloc (Below.refl _ _) _) _) b1
  clear b1
  have x0 := R2.out.cell 0
  have x1 := R2.out.cell 1
  have x2 := R2.out.cell 2
  have x3 := R2.out.cell 3
  have y0 := R3.out.cell 0
  have y1 := R3.out.cell 1
  have y2 := R3.out.cell 2
  have y3 := R3.out.cell 3
  have l2 := R2.out.lt
  have l3 := R3.out.lt
  simp only [List.getElem?_cons_zero, List.getElem?_cons_succ] at x0 x1 x2 x3 y0 y1 y2 y3
  go_wp2_with fail
  refine (HL2.out _).mono ?_
  rintro e w2 ⟨rfl, b2⟩
  have HBn := Lib.hid (bl_call HB1.out b2)
  have R2n := Lib.hid (R2.out.below b2 R2.out.lt)
  have R3n := Lib.hid (R3.out.below b2 R3.out.lt)
  clear x0 x1 x2 x3 y0 y1 y2 y3 l2 l3 b2 R2 R3 HB1
  have R2 := R2n
  have R3 := R3n
  have HB1 := HBn
  clear R2n R3n HBn
  have x0 := R2.out.cell 0
  have x1 := R2.out.cell 1
  have x2 := R2.out.cell 2
  have x3 := R2.out.cell 3
  have y0 := R3.out.cell 0
  have y1 := R3.out.cell 1
  have y2 := R3.out.cell 2
  have y3 := R3.out.cell 3
  have l2 := R2.out.lt
  have l3 := R3.out.lt
  simp only [List.getElem?_cons_zero, List.getElem?_cons_succ] at x0 x1 x2 x3 y0 y1 y2 y3
  go_wp2_with fail
  refine (HH1.out _).mono ?_
  rintro e w3 ⟨rfl, b3⟩
  have HBn := Lib.hid (bl_call HB1.out b3)
  have R2n := Lib.hid (R2.out.below b3 R2.out.lt)
  have R3n := Lib.hid (R3.out.below b3 R3.out.lt)
  clear x0 x1 x2 x3 y0 y1 y2 y3 l2 l3 b3 R2 R3 HB1
  have R2 := R2n
  have R3 := R3n
  have HB1 := HBn
  clear R2n R3n HBn
  have x0 := R2.out.cell 0
  have x1 := R2.out.cell 1
  have x2 := R2.out.cell 2
  have x3 := R2.out.cell 3
  have y0 := R3.out.cell 0
  have y1 := R3.out.cell 1
  have y2 := R3.out.cell 2
  have y3 := R3.out.cell 3
  have l2 := R2.out.lt
  have l3 := R3.out.lt
  simp only [List.getElem?_cons_zero, List.getElem?_cons_succ] at x0 x1 x2 x3 y0 y1 y2 y3
  go_wp2_with fail
  refine (HH2.out _).mono ?_
  rintro e w4 ⟨rfl, b4⟩
  have HBn := Lib.hid (bl_call HB1.out b4)
  have R2n := Lib.hid (R2.out.below b4 R2.out.lt)
  have R3n := Lib.hid (R3.out.below b4 R3.out.lt)
  clear x0 x1 x2 x3 y0 y1 y2 y3 l2 l3 b4 R2 R3 HB1
  have R2 := R2n
  have R3 := R3n
  have HB1 := HBn
  clear R2n R3n HBn
  have x0 := R2.out.cell 0
  have x1 := R2.out.cell 1
  have x2 := R2.out.cell 2
  have x3 := R2.out.cell 3
  have y0 := R3.out.cell 0
  have y1 := R3.out.cell 1
  have y2 := R3.out.cell 2
  have y3 := R3.out.cell 3
  have l2 := R2.out.lt
  have l3 := R3.out.lt
  simp only [List.getElem?_cons_zero, List.getElem?_cons_succ] at x0 x1 x2 x3 y0 y1 y2 y3
  go_wp2_with fail
  refine (HM1.out _).mono ?_
  rintro e w5 ⟨rfl, b5⟩
  have HBn := Lib.hid (bl_call HB1.out b5)
  have R2n := Lib.hid (R2.out.below b5 R2.out.lt)
  have R3n := Lib.hid (R3.out.below b5 R3.out.lt)
  clear x0 x1 x2 x3 y0 y1 y2 y3 l2 l3 b5 R2 R3 HB1
  have R2 := R2n
  have R3 := R3n
  have HB1 := HBn
  clear R2n R3n HBn
  have x0 := R2.out.cell 0
  have x1 := R2.out.cell 1
  have x2 := R2.out.cell 2
  have x3 := R2.out.cell 3
  have y0 := R3.out.cell 0
  have y1 := R3.out.cell 1
  have y2 := R3.out.cell 2
  have y3 := R3.out.cell 3
  have l2 := R2.out.lt
  have l3 := R3.out.lt
  simp only [List.getElem?_cons_zero, List.getElem?_cons_succ] at x0 x1 x2 x3 y0 y1 y2 y3
  go_wp2_with fail
  refine (HM2.out _).mono ?_
  rintro e w6 ⟨rfl, b6⟩
  have HBn := Lib.hid (bl_call HB1.out b6)
  have R2n := Lib.hid (R2.out.below b6 R2.out.lt)
  have R3n := Lib.hid (R3.out.below b6 R3.out.lt)
  clear x0 x1 x2 x3 y0 y1 y2 y3 l2 l3 b6 R2 R3 HB1
  have R2 := R2n
  have R3 := R3n
  have HB1 := HBn
  clear R2n R3n HBn
  have x0 := R2.out.cell 0
  have x1 := R2.out.cell 1
  have x2 := R2.out.cell 2
  have x3 := R2.out.cell 3
  have y0 := R3.out.cell 0
  have y1 := R3.out.cell 1
  have y2 := R3.out.cell 2
  have y3 := R3.out.cell 3
  have l2 := R2.out.lt
  have l3 := R3.out.lt
  simp only [List.getElem?_cons_zero, List.getElem?_cons_succ] at x0 x1 x2 x3 y0 y1 y2 y3
  have HC : Hid (∀ i : Nat, True) := fun _ => trivial
  go_upto_region 9 with fail
  go_cut [9] (fun v wx => v = .bool (sameO k t k2 t2 nf s.size nf2 s2.size) ∧ wx = w6)
  case first =>
    by_cases e1 : k = k2
    · subst e1
      by_cases e2 : t = t2
      · subst e2
        by_cases e3 : nf = nf2
        · subst e3
          go_wp2
          go_meet
          refine ⟨congrArg Value.bool ?_, rfl⟩
          unfold sameO
          rw [Bool.eq_iff_iff]
          simp
          try omega
        · have e3b : ((nf : Int) == (nf2 : Int)) = false := by simp; omega
          have E3 := Lib.hid e3
          clear e3
          go_wp2
          go_meet
          refine ⟨congrArg Value.bool ?_, rfl⟩
          unfold sameO
          symm
          exact decide_eq_false (by have := E3.out; omega)
      · have e2b : (t == t2) = false := by simpa using e2
        have E2 := Lib.hid e2
        clear e2
        go_wp2
        go_meet
        refine ⟨congrArg Value.bool ?_, rfl⟩
        unfold sameO
        symm
        exact decide_eq_false (by have := E2.out; omega)
    · have e1b : (k == k2) = false := by simpa using e1
      have E1 := Lib.hid e1
      clear e1
      go_wp2
      go_meet
      refine ⟨congrArg Value.bool ?_, rfl⟩
      unfold sameO
      symm
      exact decide_eq_false (by have := E1.out; omega)
  case rest =>
    obtain ⟨rfl, rfl⟩ := hcut
    go_wp2_with fail
    go_upto_region 15 with fail
    have hxx := HS.out
    have hnn := HNN.out
    have hxk := HXK.out
    change (X == X2) = sameO k t k2 t2 nf s.size nf2 s2.size at hxx
    go_wp2_with fail
    refine (HW.out _).mono ?_
    rintro e w7 ⟨rfl, b7⟩
    have HB7 := Lib.hid (bl_call HB1.out b7)
    have r2 := R2.out.below b7 R2.out.lt
    clear x0 x1 x2 x3 y0 y1 y2 y3 l2 l3
    have x0 := r2.cell 0
    have l2 := r2.lt
    simp only [List.getElem?_cons_zero] at x0
    clear b7 r2
    go_wp2_with fail
    refine (wakes_any _).mono ?_
    rintro e w8 ⟨rfl, b8⟩
    go_wp2
    go_ret
    exact ⟨rfl, bl_call HB7.out b8⟩
set_option maxRecDepth 100000 in
set_option maxHeartbeats 16000000 in
theorem both_1 (k t : Int) (a : Option Addr) (nf c : Nat) (s : ByteArray) (k2 t2 : Int) (a2 : Option Addr) (nf2 c2 : Nat) (s2 : ByteArray) (w : World) (h1 : nf ≤ 600 ∧ s.size ≤ 800) (h2 : nf2 ≤ 600 ∧ s2.size ≤ 800) (hr : headR k t nf s.size = true) (hr2 : headR k2 t2 nf2 s2.size = true) (hk : k = 2) (hm : s.size % 8 ≠ 0) :
    Calls Try.prog 6 #[obj k t a nf c s, obj k2 t2 a2 nf2 c2 s2] w fun e w' => e = .returned (.bool true) ∧ Below w.heap.size w w' := by
  have HL1 := Lib.hid (long_any k t a nf c s)
  have HL2 := Lib.hid (long_any k2 t2 a2 nf2 c2 s2)
  rw [decide_eq_false (by omega)] at HL1 HL2
  have HH1 := Lib.hid (ohead_any k t a nf c s)
  have HH2 := Lib.hid (ohead_any k2 t2 a2 nf2 c2 s2)
  have HM1 := Lib.hid (refMay_any k t a nf c s)
  have HM2 := Lib.hid (refMay_any k2 t2 a2 nf2 c2 s2)
  have HW := Lib.hid (owords_any k t a nf c s)
  rw [hr] at HH1 HM1
  rw [hr2] at HH2 HM2
  have hq := head_eq k t nf s.size hr
  have HS := Lib.hid (head_same k t k2 t2 nf s.size nf2 s2.size hr hr2)
  have HWR : Hid (wordsR k t nf s.size = 1 + longH k (sizeH k nf s.size)) := by show _ = _; rw [wordsR, if_pos hr]
  clear hr hr2
  have hkb : (k == 2) = true := by simpa using hk
  have hmb : ((s.size : Int) % 8 != 0) = true := by simp; omega
  have HNN : Hid (((wordsR k t nf s.size : Nat) : Int) == 1 + (s.size : Int) / 8 + 1) := by
    show (((wordsR k t nf s.size : Nat) : Int) == 1 + (s.size : Int) / 8 + 1) = true
    rw [HWR.out]
    simp [longH, sizeH, hk]
    omega
  clear hk hm
  generalize headWR k t nf s.size = X at *
  generalize headWR k2 t2 nf2 s2.size = X2 at *
  generalize wordsR k t nf s.size = N at *
  obtain ⟨hq0, hq1, hq2⟩ := hq
  have HXK : Hid ((X % 256 == k) = true) := by show _ = _; rw [hq2]; simp
  clear hq2
  go_enter Try.func6, Try.ntmps6
  go_wp2_with fail
  refine (HL1.out _).mono ?_
  rintro e w1 ⟨rfl, b1⟩
  have R2 : Hid (rowAt w1 w.heap.size 28 [.int .i64 k, .int .i64 t, .slice a nf c, .string s]) := ((rowAt.made w _ _).alloc _).below b1 (by simp <;> omega)
  have R3 : Hid (rowAt w1 (w.heap.size + 1) 28 [.int .i64 k2, .int .i64 t2, .slice a2 nf2 c2, .string s2]) := (rowAt.made_at (w := w.alloc _) _ _ (by simp)).below b1 (by simp)
  have HB1 : Hid (Below w.heap.size w w1) := bl_call (bl_alloc (bl_alloc (Below.refl _ _) _) _) b1
  clear b1
  have x0 := R2.out.cell 0
  have x1 := R2.out.cell 1
  have x2 := R2.out.cell 2
  have x3 := R2.out.cell 3
  have y0 := R3.out.cell 0
  have y1 := R3.out.cell 1
  have y2 := R3.out.cell 2
  have y3 := R3.out.cell 3
  have l2 := R2.out.lt
  have l3 := R3.out.lt
  simp only [List.getElem?_cons_zero, List.getElem?_cons_succ] at x0 x1 x2 x3 y0 y1 y2 y3
  go_wp2_with fail
  refine (HL2.out _).mono ?_
  rintro e w2 ⟨rfl, b2⟩
  have HBn := Lib.hid (bl_call HB1.out b2)
  have R2n := Lib.hid (R2.out.below b2 R2.out.lt)
  have R3n := Lib.hid (R3.out.below b2 R3.out.lt)
  clear x0 x1 x2 x3 y0 y1 y2 y3 l2 l3 b2 R2 R3 HB1
  have R2 := R2n
  have R3 := R3n
  have HB1 := HBn
  clear R2n R3n HBn
  have x0 := R2.out.cell 0
  have x1 := R2.out.cell 1
  have x2 := R2.out.cell 2
  have x3 := R2.out.cell 3
  have y0 := R3.out.cell 0
  have y1 := R3.out.cell 1
  have y2 := R3.out.cell 2
  have y3 := R3.out.cell 3
  have l2 := R2.out.lt
  have l3 := R3.out.lt
  simp only [List.getElem?_cons_zero, List.getElem?_cons_succ] at x0 x1 x2 x3 y0 y1 y2 y3
  go_wp2_with fail
  refine (HH1.out _).mono ?_
  rintro e w3 ⟨rfl, b3⟩
  have HBn := Lib.hid (bl_call HB1.out b3)
  have R2n := Lib.hid (R2.out.below b3 R2.out.lt)
  have R3n := Lib.hid (R3.out.below b3 R3.out.lt)
  clear x0 x1 x2 x3 y0 y1 y2 y3 l2 l3 b3 R2 R3 HB1
  have R2 := R2n
  have R3 := R3n
  have HB1 := HBn
  clear R2n R3n HBn
  have x0 := R2.out.cell 0
  have x1 := R2.out.cell 1
  have x2 := R2.out.cell 2
  have x3 := R2.out.cell 3
  have y0 := R3.out.cell 0
  have y1 := R3.out.cell 1
  have y2 := R3.out.cell 2
  have y3 := R3.out.cell 3
  have l2 := R2.out.lt
  have l3 := R3.out.lt
  simp only [List.getElem?_cons_zero, List.getElem?_cons_succ] at x0 x1 x2 x3 y0 y1 y2 y3
  go_wp2_with fail
  refine (HH2.out _).mono ?_
  rintro e w4 ⟨rfl, b4⟩
  have HBn := Lib.hid (bl_call HB1.out b4)
  have R2n := Lib.hid (R2.out.below b4 R2.out.lt)
  have R3n := Lib.hid (R3.out.below b4 R3.out.lt)
  clear x0 x1 x2 x3 y0 y1 y2 y3 l2 l3 b4 R2 R3 HB1
  have R2 := R2n
  have R3 := R3n
  have HB1 := HBn
  clear R2n R3n HBn
  have x0 := R2.out.cell 0
  have x1 := R2.out.cell 1
  have x2 := R2.out.cell 2
  have x3 := R2.out.cell 3
  have y0 := R3.out.cell 0
  have y1 := R3.out.cell 1
  have y2 := R3.out.cell 2
  have y3 := R3.out.cell 3
  have l2 := R2.out.lt
  have l3 := R3.out.lt
  simp only [List.getElem?_cons_zero, List.getElem?_cons_succ] at x0 x1 x2 x3 y0 y1 y2 y3
  go_wp2_with fail
  refine (HM1.out _).mono ?_
  rintro e w5 ⟨rfl, b5⟩
  have HBn := Lib.hid (bl_call HB1.out b5)
  have R2n := Lib.hid (R2.out.below b5 R2.out.lt)
  have R3n := Lib.hid (R3.out.below b5 R3.out.lt)
  clear x0 x1 x2 x3 y0 y1 y2 y3 l2 l3 b5 R2 R3 HB1
  have R2 := R2n
  have R3 := R3n
  have HB1 := HBn
  clear R2n R3n HBn
  have x0 := R2.out.cell 0
  have x1 := R2.out.cell 1
  have x2 := R2.out.cell 2
  have x3 := R2.out.cell 3
  have y0 := R3.out.cell 0
  have y1 := R3.out.cell 1
  have y2 := R3.out.cell 2
  have y3 := R3.out.cell 3
  have l2 := R2.out.lt
  have l3 := R3.out.lt
  simp only [List.getElem?_cons_zero, List.getElem?_cons_succ] at x0 x1 x2 x3 y0 y1 y2 y3
  go_wp2_with fail
  refine (HM2.out _).mono ?_
  rintro e w6 ⟨rfl, b6⟩
  have HBn := Lib.hid (bl_call HB1.out b6)
  have R2n := Lib.hid (R2.out.below b6 R2.out.lt)
  have R3n := Lib.hid (R3.out.below b6 R3.out.lt)
  clear x0 x1 x2 x3 y0 y1 y2 y3 l2 l3 b6 R2 R3 HB1
  have R2 := R2n
  have R3 := R3n
  have HB1 := HBn
  clear R2n R3n HBn
  have x0 := R2.out.cell 0
  have x1 := R2.out.cell 1
  have x2 := R2.out.cell 2
  have x3 := R2.out.cell 3
  have y0 := R3.out.cell 0
  have y1 := R3.out.cell 1
  have y2 := R3.out.cell 2
  have y3 := R3.out.cell 3
  have l2 := R2.out.lt
  have l3 := R3.out.lt
  simp only [List.getElem?_cons_zero, List.getElem?_cons_succ] at x0 x1 x2 x3 y0 y1 y2 y3
  have HC : Hid (∀ i : Nat, True) := fun _ => trivial
  go_upto_region 9 with fail
  go_cut [9] (fun v wx => v = .bool (sameO k t k2 t2 nf s.size nf2 s2.size) ∧ wx = w6)
  case first =>
    by_cases e1 : k = k2
    · subst e1
      by_cases e2 : t = t2
      · subst e2
        by_cases e3 : nf = nf2
        · subst e3
          go_wp2
          go_meet
          refine ⟨congrArg Value.bool ?_, rfl⟩
          unfold sameO
          rw [Bool.eq_iff_iff]
          simp
          try omega
        · have e3b : ((nf : Int) == (nf2 : Int)) = false := by simp; omega
          have E3 := Lib.hid e3
          clear e3
          go_wp2
          go_meet
          refine ⟨congrArg Value.bool ?_, rfl⟩
          unfold sameO
          symm
          exact decide_eq_false (by have := E3.out; omega)
      · have e2b : (t == t2) = false := by simpa using e2
        have E2 := Lib.hid e2
        clear e2
        go_wp2
        go_meet
        refine ⟨congrArg Value.bool ?_, rfl⟩
        unfold sameO
        symm
        exact decide_eq_false (by have := E2.out; omega)
    · have e1b : (k == k2) = false := by simpa using e1
      have E1 := Lib.hid e1
      clear e1
      go_wp2
      go_meet
      refine ⟨congrArg Value.bool ?_, rfl⟩
      unfold sameO
      symm
      exact decide_eq_false (by have := E1.out; omega)
  case rest =>
    obtain ⟨rfl, rfl⟩ := hcut
    go_wp2_with fail
    go_upto_region 15 with fail
    have hxx := HS.out
    have hnn := HNN.out
    have hxk := HXK.out
    change (X == X2) = sameO k t k2 t2 nf s.size nf2 s2.size at hxx
    go_wp2_with fail
    refine (HW.out _).mono ?_
    rintro e w7 ⟨rfl, b7⟩
    have HB7 := Lib.hid (bl_call HB1.out b7)
    have r2 := R2.out.below b7 R2.out.lt
    clear x0 x1 x2 x3 y0 y1 y2 y3 l2 l3
    have x0 := r2.cell 0
    have l2 := r2.lt
    simp only [List.getElem?_cons_zero] at x0
    clear b7 r2
    go_wp2_with fail
    refine (wakes_any _).mono ?_
    rintro e w8 ⟨rfl, b8⟩
    go_wp2
    go_ret
    exact ⟨rfl, bl_call HB7.out b8⟩

theorem one_long (k t : Int) (a : Option Addr) (nf c : Nat) (s : ByteArray) (k2 t2 : Int) (a2 : Option Addr) (nf2 c2 : Nat) (s2 : ByteArray) (w : World) (h1 : ¬ (nf ≤ 600 ∧ s.size ≤ 800)) :
    Calls Try.prog 6 #[obj k t a nf c s, obj k2 t2 a2 nf2 c2 s2] w fun e w' => e = .returned (.bool true) ∧ Below w.heap.size w w' := by
  have HL1 := Lib.hid (long_any k t a nf c s)
  rw [decide_eq_true (by omega)] at HL1
  clear h1
  go_enter Try.func6, Try.ntmps6
  go_wp2_with fail
  refine (HL1.out _).mono ?_
  rintro e w1 ⟨rfl, b1⟩
  have HB1 : Hid (Below w.heap.size w w1) := bl_call (bl_alloc (bl_alloc (Below.refl _ _) _) _) b1
  clear b1
  go_wp2_with fail
  refine (wakes_any _).mono ?_
  rintro e w2 ⟨rfl, b2⟩
  go_wp2
  go_ret
  exact ⟨rfl, bl_call HB1.out b2⟩
theorem two_long (k t : Int) (a : Option Addr) (nf c : Nat) (s : ByteArray) (k2 t2 : Int) (a2 : Option Addr) (nf2 c2 : Nat) (s2 : ByteArray) (w : World) (h1 : nf ≤ 600 ∧ s.size ≤ 800) (h2 : ¬ (nf2 ≤ 600 ∧ s2.size ≤ 800)) :
    Calls Try.prog 6 #[obj k t a nf c s, obj k2 t2 a2 nf2 c2 s2] w fun e w' => e = .returned (.bool true) ∧ Below w.heap.size w w' := by
  have HL1 := Lib.hid (long_any k t a nf c s)
  have HL2 := Lib.hid (long_any k2 t2 a2 nf2 c2 s2)
  rw [decide_eq_false (by omega)] at HL1
  rw [decide_eq_true (by omega)] at HL2
  clear h1 h2
  go_enter Try.func6, Try.ntmps6
  go_wp2_with fail
  refine (HL1.out _).mono ?_
  rintro e w1 ⟨rfl, b1⟩
  have R3 : Hid (rowAt w1 (w.heap.size + 1) 28 [.int .i64 k2, .int .i64 t2, .slice a2 nf2 c2, .string s2]) := (rowAt.made_at (w := w.alloc _) _ _ (by simp)).below b1 (by simp)
  have HB1 : Hid (Below w.heap.size w w1) := bl_call (bl_alloc (bl_alloc (Below.refl _ _) _) _) b1
  have y0 := R3.out.cell 0
  have y1 := R3.out.cell 1
  have y2 := R3.out.cell 2
  have y3 := R3.out.cell 3
  have l3 := R3.out.lt
  simp only [List.getElem?_cons_zero, List.getElem?_cons_succ] at y0 y1 y2 y3
  clear b1
  go_wp2_with fail
  refine (HL2.out _).mono ?_
  rintro e w2 ⟨rfl, b2⟩
  clear y0 y1 y2 y3 l3
  go_wp2_with fail
  refine (wakes_any _).mono ?_
  rintro e w3 ⟨rfl, b3⟩
  go_wp2
  go_ret
  exact ⟨rfl, bl_call (bl_call HB1.out b2) b3⟩

set_option maxRecDepth 100000 in
set_option maxHeartbeats 16000000 in
theorem not_both (k t : Int) (a : Option Addr) (nf c : Nat) (s : ByteArray) (k2 t2 : Int) (a2 : Option Addr) (nf2 c2 : Nat) (s2 : ByteArray) (w : World) (h1 : nf ≤ 600 ∧ s.size ≤ 800) (h2 : nf2 ≤ 600 ∧ s2.size ≤ 800) (r1 r2 : Bool) (hr : headR k t nf s.size = r1) (hr2 : headR k2 t2 nf2 s2.size = r2) (hn : (r1 && r2) = false) :
    Calls Try.prog 6 #[obj k t a nf c s, obj k2 t2 a2 nf2 c2 s2] w fun e w' => e = .returned (.bool true) ∧ Below w.heap.size w w' := by
  have HL1 := Lib.hid (long_any k t a nf c s)
  have HL2 := Lib.hid (long_any k2 t2 a2 nf2 c2 s2)
  rw [decide_eq_false (by omega)] at HL1 HL2
  have HH1 := Lib.hid (ohead_any k t a nf c s)
  have HH2 := Lib.hid (ohead_any k2 t2 a2 nf2 c2 s2)
  have HM1 := Lib.hid (refMay_any k t a nf c s)
  have HM2 := Lib.hid (refMay_any k2 t2 a2 nf2 c2 s2)
  rw [hr] at HH1 HM1
  rw [hr2] at HH2 HM2
  clear hr hr2
  generalize headWR k t nf s.size = X at *
  generalize headWR k2 t2 nf2 s2.size = X2 at *
  cases r1 <;> cases r2
  case true.true => cases hn
  all_goals
    clear hn
    go_enter Try.func6, Try.ntmps6
    go_wp2_with fail
    refine (HL1.out _).mono ?_
    rintro e w1 ⟨rfl, b1⟩
    have R2 : Hid (rowAt w1 w.heap.size 28 [.int .i64 k, .int .i64 t, .slice a nf c, .string s]) := ((rowAt.made w _ _).alloc _).below b1 (by simp <;> omega)
    have R3 : Hid (rowAt w1 (w.heap.size + 1) 28 [.int .i64 k2, .int .i64 t2, .slice a2 nf2 c2, .string s2]) := (rowAt.made_at (w := w.alloc _) _ _ (by simp)).below b1 (by simp)
    have HB1 : Hid (Below w.heap.size w w1) := bl_call (bl_alloc (bl_alloc (Below.refl _ _) _) _) b1
    clear b1
    have x0 := R2.out.cell 0
    have x1 := R2.out.cell 1
    have x2 := R2.out.cell 2
    have x3 := R2.out.cell 3
    have y0 := R3.out.cell 0
    have y1 := R3.out.cell 1
    have y2 := R3.out.cell 2
    have y3 := R3.out.cell 3
    have l2 := R2.out.lt
    have l3 := R3.out.lt
    simp only [List.getElem?_cons_zero, List.getElem?_cons_succ] at x0 x1 x2 x3 y0 y1 y2 y3
    go_wp2_with fail
    refine (HL2.out _).mono ?_
    rintro e w2 ⟨rfl, b2⟩
    have HBn := Lib.hid (bl_call HB1.out b2)
    have R2n := Lib.hid (R2.out.below b2 R2.out.lt)
    have R3n := Lib.hid (R3.out.below b2 R3.out.lt)
    clear x0 x1 x2 x3 y0 y1 y2 y3 l2 l3 b2 R2 R3 HB1
    have R2 := R2n
    have R3 := R3n
    have HB1 := HBn
    clear R2n R3n HBn
    have x0 := R2.out.cell 0
    have x1 := R2.out.cell 1
    have x2 := R2.out.cell 2
    have x3 := R2.out.cell 3
    have y0 := R3.out.cell 0
    have y1 := R3.out.cell 1
    have y2 := R3.out.cell 2
    have y3 := R3.out.cell 3
    have l2 := R2.out.lt
    have l3 := R3.out.lt
    simp only [List.getElem?_cons_zero, List.getElem?_cons_succ] at x0 x1 x2 x3 y0 y1 y2 y3
    go_wp2_with fail
    refine (HH1.out _).mono ?_
    rintro e w3 ⟨rfl, b3⟩
    have HBn := Lib.hid (bl_call HB1.out b3)
    have R2n := Lib.hid (R2.out.below b3 R2.out.lt)
    have R3n := Lib.hid (R3.out.below b3 R3.out.lt)
    clear x0 x1 x2 x3 y0 y1 y2 y3 l2 l3 b3 R2 R3 HB1
    have R2 := R2n
    have R3 := R3n
    have HB1 := HBn
    clear R2n R3n HBn
    have x0 := R2.out.cell 0
    have x1 := R2.out.cell 1
    have x2 := R2.out.cell 2
    have x3 := R2.out.cell 3
    have y0 := R3.out.cell 0
    have y1 := R3.out.cell 1
    have y2 := R3.out.cell 2
    have y3 := R3.out.cell 3
    have l2 := R2.out.lt
    have l3 := R3.out.lt
    simp only [List.getElem?_cons_zero, List.getElem?_cons_succ] at x0 x1 x2 x3 y0 y1 y2 y3
    go_wp2_with fail
    refine (HH2.out _).mono ?_
    rintro e w4 ⟨rfl, b4⟩
    have HBn := Lib.hid (bl_call HB1.out b4)
    have R2n := Lib.hid (R2.out.below b4 R2.out.lt)
    have R3n := Lib.hid (R3.out.below b4 R3.out.lt)
    clear x0 x1 x2 x3 y0 y1 y2 y3 l2 l3 b4 R2 R3 HB1
    have R2 := R2n
    have R3 := R3n
    have HB1 := HBn
    clear R2n R3n HBn
    have x0 := R2.out.cell 0
    have x1 := R2.out.cell 1
    have x2 := R2.out.cell 2
    have x3 := R2.out.cell 3
    have y0 := R3.out.cell 0
    have y1 := R3.out.cell 1
    have y2 := R3.out.cell 2
    have y3 := R3.out.cell 3
    have l2 := R2.out.lt
    have l3 := R3.out.lt
    simp only [List.getElem?_cons_zero, List.getElem?_cons_succ] at x0 x1 x2 x3 y0 y1 y2 y3
    go_wp2_with fail
    refine (HM1.out _).mono ?_
    rintro e w5 ⟨rfl, b5⟩
    have HBn := Lib.hid (bl_call HB1.out b5)
    have R2n := Lib.hid (R2.out.below b5 R2.out.lt)
    have R3n := Lib.hid (R3.out.below b5 R3.out.lt)
    clear x0 x1 x2 x3 y0 y1 y2 y3 l2 l3 b5 R2 R3 HB1
    have R2 := R2n
    have R3 := R3n
    have HB1 := HBn
    clear R2n R3n HBn
    have x0 := R2.out.cell 0
    have x1 := R2.out.cell 1
    have x2 := R2.out.cell 2
    have x3 := R2.out.cell 3
    have y0 := R3.out.cell 0
    have y1 := R3.out.cell 1
    have y2 := R3.out.cell 2
    have y3 := R3.out.cell 3
    have l2 := R2.out.lt
    have l3 := R3.out.lt
    simp only [List.getElem?_cons_zero, List.getElem?_cons_succ] at x0 x1 x2 x3 y0 y1 y2 y3
    go_wp2_with fail
    refine (HM2.out _).mono ?_
    rintro e w6 ⟨rfl, b6⟩
    have HBn := Lib.hid (bl_call HB1.out b6)
    have R2n := Lib.hid (R2.out.below b6 R2.out.lt)
    have R3n := Lib.hid (R3.out.below b6 R3.out.lt)
    clear x0 x1 x2 x3 y0 y1 y2 y3 l2 l3 b6 R2 R3 HB1
    have R2 := R2n
    have R3 := R3n
    have HB1 := HBn
    clear R2n R3n HBn
    have x0 := R2.out.cell 0
    have x1 := R2.out.cell 1
    have x2 := R2.out.cell 2
    have x3 := R2.out.cell 3
    have y0 := R3.out.cell 0
    have y1 := R3.out.cell 1
    have y2 := R3.out.cell 2
    have y3 := R3.out.cell 3
    have l2 := R2.out.lt
    have l3 := R3.out.lt
    simp only [List.getElem?_cons_zero, List.getElem?_cons_succ] at x0 x1 x2 x3 y0 y1 y2 y3
    go_wp2_with fail
    refine (wakes_any _).mono ?_
    rintro e w7 ⟨rfl, b7⟩
    go_wp2
    go_ret
    exact ⟨rfl, bl_call HB1.out b7⟩

theorem walk (k t : Int) (a : Option Addr) (c : Nat) (xs : List Int) (s : ByteArray) (k2 t2 : Int) (a2 : Option Addr) (c2 : Nat) (xs2 : List Int) (s2 : ByteArray) (w : World) :
    Calls Try.prog 6 #[obj k t a xs.length c s, obj k2 t2 a2 xs2.length c2 s2] w fun e w' => e = .returned (.bool true) ∧ Below w.heap.size w w' := by
  by_cases h1 : xs.length ≤ 600 ∧ s.size ≤ 800
  · by_cases h2 : xs2.length ≤ 600 ∧ s2.size ≤ 800
    · cases hr : headR k t xs.length s.size with
      | false => exact not_both k t a _ c s k2 t2 a2 _ c2 s2 w h1 h2 false _ hr rfl rfl
      | true =>
        cases hr2 : headR k2 t2 xs2.length s2.size with
        | false => exact not_both k t a _ c s k2 t2 a2 _ c2 s2 w h1 h2 true false hr hr2 rfl
        | true =>
          by_cases hk : k = 2
          · by_cases hm : s.size % 8 = 0
            · exact both_0 k t a _ c s k2 t2 a2 _ c2 s2 w h1 h2 hr hr2 hk hm
            · exact both_1 k t a _ c s k2 t2 a2 _ c2 s2 w h1 h2 hr hr2 hk hm
          · exact both_f k t a _ c s k2 t2 a2 _ c2 s2 w h1 h2 hr hr2 hk
    · exact two_long k t a _ c s k2 t2 a2 _ c2 s2 w h1 h2
  · exact one_long k t a _ c s k2 t2 a2 _ c2 s2 w h1

theorem contract (H : Type) (enc : TypeId × Value → H) (W : World) (base : Nat) (args : Array Value) (ds gs : List (DataW H)) (before : List MemPlace)
    (hval0 : ∀ (j : Nat) t v, Try.f6.params[j]? = some t → args[j]? = some v → Value.okWide Try.prog W .any base t v)
    (hW : DataW.Whole enc Try.prog Try.f6.params.toList Rows.objectHeadsSpec.vars false W args.toList ds gs before) :
    Calls Try.prog 6 args W fun e W' => ∃ v, e = .returned v ∧ Rows.objectHeadsSpec.post enc Try.prog Try.f6 false true false false W args v W' := by
  have hW' := hW
  have hval := hval0
  obtain ⟨p, q, hA0, hV, rfl, hfz, hnd⟩ := hW
  have hA : DataW.TrodAll enc Try.prog W 0 (fun _ => true) true Try.f6.params.toList args.toList ds p := hA0
  rw [Try.params6] at hA hval
  obtain ⟨rfl, rfl⟩ := trodVars_none hV
  obtain ⟨v0, vs0, d0, ds0, p0, q0, hargs, rfl, rfl, h0, r0⟩ := trodAll_cons hA
  obtain ⟨v1, vs1, d1, ds1, p1, q1, rfl, rfl, rfl, h1, r1⟩ := trodAll_cons r0
  obtain ⟨rfl, rfl, rfl⟩ := trodAll_nil r1
  obtain rfl : args = #[v0, v1] := by cases args; simp_all
  obtain ⟨f0_0, f0_1, f0_2, f0_3, hs0, ho0, u0_0, u0_1, u0_2, u0_3⟩ := under_object
  obtain ⟨k0, g0, sa0, sc0, xs0, s0, rfl, wk0, wg0, hr0, hx0, hm0, hn0⟩ := open_obj hs0 ho0 (by kernel_rfl) u0_0 u0_1 (by rw [u0_2]; exact Try.underlying22) Try.underlying29 (by kernel_rfl) u0_3 (hval 0 28 v0 rfl rfl) h0
  obtain ⟨f1_0, f1_1, f1_2, f1_3, hs1, ho1, u1_0, u1_1, u1_2, u1_3⟩ := under_object
  obtain ⟨k1, g1, sa1, sc1, xs1, s1, rfl, wk1, wg1, hr1, hx1, hm1, hn1⟩ := open_obj hs1 ho1 (by kernel_rfl) u1_0 u1_1 (by rw [u1_2]; exact Try.underlying22) Try.underlying29 (by kernel_rfl) u1_3 (hval 1 28 v1 rfl rfl) h1
  refine (walk k0 g0 sa0 sc0 xs0 s0 k1 g1 sa1 sc1 xs1 s1 W).mono fun e W' ⟨he, hb⟩ => ?_
  subst he
  exact ⟨_, rfl, law_post laidOut (by kernel_rfl) rfl (by kernel_rfl) Try.underlying4 hW' rfl rfl rfl hb⟩

set_option maxRecDepth 100000 in
theorem lifted (os : Os) (started : os.Started) (H : Type) (enc : TypeId × Value → H) :
    ReturnsInHanded {} Try.checked os 6 .any (Rows.objectHeadsSpec.pre6 enc Try.prog Try.f6 Rows.objectHeadsRow.domain false) (Rows.objectHeadsSpec.post enc Try.prog Try.f6 false true false false) := by
  refine returnsInHanded_of_change (C := Try.checked) own started (by kernel_rfl) Try.func6
    (ChangeSpec.witness6 (enc := enc) (C := Try.checked) false ⟨#[], #[.agg #[.int .i64 0, .int .i64 0, .slice none 0 0, .string ⟨#[]⟩], .agg #[.int .i64 0, .int .i64 0, .slice none 0 0, .string ⟨#[]⟩]], []⟩ 8 (by kernel_rfl) (by kernel_rfl) (by kernel_rfl) (by kernel_rfl)) ?_
  intro W base args ds gs before hval hW _ _
  exact contract H enc W base args ds gs before hval hW

theorem over : Rows.objectHeadsRow.holds Try.pinned (OpenSpec.ofChange Rows.objectHeadsSpec) :=
  OpenClaim.holds_of_wide 6 Try.f6 rfl rfl rfl rfl rfl rfl rfl ⟨rfl, rfl, rfl, rfl, rfl⟩ rfl rfl rfl rfl rfl (by kernel_rfl) Try.func6 (by kernel_rfl)
    (of_decide_eq_true (by kernel_rfl)) (by unfold Func.isWrapper; first | (rw [if_pos (by decide +kernel)]; kernel_rfl) | (rw [if_neg (by decide +kernel)]; exact ⟨rfl, rfl⟩))
    (fun os started H enc _ => lifted os started H enc)

theorem proved : Rows.ObjectHeadsSaid := over
#print axioms proved
end Go.Proofs.Ytlaacohcdllaoaa.objectHeads
