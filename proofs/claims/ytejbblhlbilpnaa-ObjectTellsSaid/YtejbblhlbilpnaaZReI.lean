/-
  All objects of a heap, as the document tells them (stockpotref03.All).
  Conditions: as each states.
-/
import Derived.Test.YtejbblhlbilpnaaZReH
import Derived.Test.YtejbblhlbilpnaaZObQ
namespace Go.Proofs.Ytejbblhlbilpnaa
set_option linter.unusedSimpArgs false
open Go.ChangeShapes Go.WideShapes Go.ChangeAt Go.RowKit
set_option maxRecDepth 100000

theorem semi_any {w : World} {p bw : Nat} {rv : Value} {A : Ar} (h : RefIn w p bw rv A) {base half space top : Int} (hl : A.liesB base half space top = true) :
    Calls Try.prog 50 #[.pointer (some ⟨p, 0, none⟩), heapV base half space top] w (SemiT bw (base + space * half).toNat top.toNat w) := by
  have hn := lies_nums hl
  have hb := h.ok.bound (lies_find hl)
  obtain ⟨b, rfl⟩ := Int.eq_ofNat_of_zero_le hb.1
  obtain ⟨hf, rfl⟩ := Int.eq_ofNat_of_zero_le (a := half) (by omega)
  obtain ⟨T, rfl⟩ := Int.eq_ofNat_of_zero_le (a := top) (by omega)
  rw [Int.toNat_natCast]
  rcases (show space = 0 ∨ space = 1 by omega) with rfl | rfl
  · rw [show ((b : Int) + 0 * (hf : Int)).toNat = b by omega]
    exact semi_yes0 h b hf T hl
  · rw [show ((b : Int) + 1 * (hf : Int)).toNat = b + hf by omega]
    exact semi_yes1 h b hf T hl

theorem semi_reads {W : World} {p bw : Nat} {rv : Value} {A : Ar} (h : RefIn W p bw rv A) {base half space top : Int} (hl : A.liesB base half space top = true) {o' : Nat} (ho : top.toNat = 0 ∨ o' = (base + space * half).toNat) :
    readsAt W (.slice (some ⟨bw, o', none⟩) top.toNat top.toNat) top.toNat (wordsL (A.semi base half space top)) := by
  refine ⟨_, _, rfl, ?_⟩
  rcases ho with h0 | rfl
  · exact .inl h0
  · refine .inr ⟨bw, _, rfl, fun j u hj => ?_⟩
    have hn := lies_nums hl
    have hf := lies_find hl
    have hb := h.ok.bound hf
    rw [h.words.cell, List.getElem?_map]
    simp only [wordsL, List.getElem?_map, Ar.semi, Ar.region, hf] at hj
    rw [List.getElem?_take] at hj
    split at hj
    · rename_i hjt
      rw [List.getElem?_drop, List.getElem?_take, if_pos (by omega), List.getElem?_drop] at hj
      rw [show (base + space * half).toNat + j = base.toNat + ((space * half).toNat + j) by omega]
      exact hj
    · cases hj

abbrev placesV (a : Option Addr) (n c : Nat) (b : Bool) : Value := .agg #[.slice a n c, .bool b]
/-- What 'All' tells. -/
def AllT (A : Ar) (base half space top : Int) (w : World) (e : Ending) (w' : World) : Prop :=
  Below w.heap.size w w' ∧ ((∃ obs a c, A.objs base half space top = some obs ∧ e = .returned (placesV a (A.placesI base half space top).length c true) ∧ w'.ownsRow w.heap.size 3 1 (.slice a (A.placesI base half space top).length c) (A.placesI base half space top).length (intsL (A.placesI base half space top))) ∨
    (A.objs base half space top = none ∧ e = .returned (placesV none 0 0 false)))

set_option maxHeartbeats 8000000 in
theorem reAll_no {w : World} {p bw : Nat} {rv : Value} {A : Ar} (h : RefIn w p bw rv A) (base half space top : Int) (hl : A.liesB base half space top = false) :
    Calls Try.prog 17 #[.pointer (some ⟨p, 0, none⟩), heapV base half space top] w (AllT A base half space top w) := by
  have q : ∀ (w : World) (a : Option Addr) (n c n' c' : Nat), (binOp .eql 22 (.slice a n c) (.slice none n' c')).run Try.prog w = .ok (.bool a.isNone) w := fun w a n c n' c' => Lib.run_eql_slice_nil w _ _ a n c n' c' under_words
  have HNO : Hid (A.objs base half space top = none) := by show _ = _; unfold Ar.objs; rw [if_neg (by rw [hl]; decide)]
  have HREF : Hid (∀ W, Below w.heap.size w W → RefIn W p bw rv A) := fun W hb => RefIn.upon h (Upon.of_below hb) fun _ _ h => (h : False)
  have HSZ : Hid (∀ W, RefIn W p bw rv A → Calls Try.prog 51 #[.pointer (some ⟨p, 0, none⟩), .int .i64 base] W fun e w' => e = .returned (.int .i64 (A.size base)) ∧ w' = W) := fun W hW => (refSize_any hW base).mono fun e w' ⟨he, hw⟩ => ⟨he, hw.symm⟩
  have HSE : Hid (∀ W, RefIn W p bw rv A → Calls Try.prog 50 #[.pointer (some ⟨p, 0, none⟩), heapV base half space top] W fun e w' => e = .returned (.slice none 0 0) ∧ Below W.heap.size W w') := fun W hW => semi_no hW base half space top hl
  have HL := Lib.hid hl
  clear hl h
  by_cases c0 : top ≠ 0
  · have d0 : (top != 0) = true := by simpa using c0
    clear c0
    go_enter Try.func17, Try.ntmps17
    go_wp2_with fail
    refine (HSE.out _ (HREF.out _ (bl_alloc (bl_alloc (Below.refl _ _) _) _))).mono ?_
    rintro e w1 ⟨rfl, b1⟩
    have r3 : rowAt w1 w.heap.size 24 [.int .i64 base, .int .i64 half, .int .i64 space, .int .i64 top] := ((rowAt.made w _ _).alloc _).below b1 (by simp <;> omega)
    have r4 : rowAt w1 (w.heap.size + 1) 51 [.slice none 0 0, .bool false] := (rowAt.made_at (w := w.alloc _) _ _ (by simp)).below b1 (by simp <;> omega)
    have HB : Hid (Below w.heap.size w w1) := bl_call (bl_alloc (bl_alloc (Below.refl _ _) _) _) b1
    have HREF2 : Hid (∀ n, RefIn (w1.drewN n) p bw rv A) := fun n => HREF.out _ (bl_drewN HB.out n)
    have c0 := r3.cell 0
    have c1 := r3.cell 1
    have c2 := r3.cell 2
    have c3 := r3.cell 3
    have p0 := r4.cell 0
    have p1 := r4.cell 1
    have q0 := r4.free 0
    have q1 := r4.free 1
    have hz1 := r4.lt
    simp only [List.getElem?_cons_zero, List.getElem?_cons_succ] at c0 c1 c2 c3 p0 p1
    clear r3 r4 b1
    go_wp2
    go_quiet ((go_at_call 51; exact Calls.quiet_of_same (HSZ.out _ (HREF2.out _))))
    go_wp2
    refine bodyPost_ret (v := placesV none 0 0 false) (by simp [results, Try.results17, go_sem, hz1, p0, p1]) rfl ⟨?_, .inr ⟨HNO.out, rfl⟩⟩
    repeat (first | exact bl_drewN HB.out _ | refine bl_set ?_ (by simp) _)
  have d0 : (top != 0) = false := by simpa using c0
  have e0 := Lib.hid (Classical.not_not.1 c0)
  clear c0
  by_cases c1 : half < 8
  · have d1 : decide (half < 8) = true := decide_eq_true c1
    clear c1
    go_enter Try.func17, Try.ntmps17
    go_wp2_with fail
    refine (HSE.out _ (HREF.out _ (bl_alloc (bl_alloc (Below.refl _ _) _) _))).mono ?_
    rintro e w1 ⟨rfl, b1⟩
    have r3 : rowAt w1 w.heap.size 24 [.int .i64 base, .int .i64 half, .int .i64 space, .int .i64 top] := ((rowAt.made w _ _).alloc _).below b1 (by simp <;> omega)
    have r4 : rowAt w1 (w.heap.size + 1) 51 [.slice none 0 0, .bool false] := (rowAt.made_at (w := w.alloc _) _ _ (by simp)).below b1 (by simp <;> omega)
    have HB : Hid (Below w.heap.size w w1) := bl_call (bl_alloc (bl_alloc (Below.refl _ _) _) _) b1
    have HREF2 : Hid (∀ n, RefIn (w1.drewN n) p bw rv A) := fun n => HREF.out _ (bl_drewN HB.out n)
    have c0 := r3.cell 0
    have c1 := r3.cell 1
    have c2 := r3.cell 2
    have c3 := r3.cell 3
    have p0 := r4.cell 0
    have p1 := r4.cell 1
    have q0 := r4.free 0
    have q1 := r4.free 1
    have hz1 := r4.lt
    simp only [List.getElem?_cons_zero, List.getElem?_cons_succ] at c0 c1 c2 c3 p0 p1
    clear r3 r4 b1
    go_wp2
    go_quiet ((go_at_call 51; exact Calls.quiet_of_same (HSZ.out _ (HREF2.out _))))
    go_wp2
    refine bodyPost_ret (v := placesV none 0 0 false) (by simp [results, Try.results17, go_sem, hz1, p0, p1]) rfl ⟨?_, .inr ⟨HNO.out, rfl⟩⟩
    repeat (first | exact bl_drewN HB.out _ | refine bl_set ?_ (by simp) _)
  have d1 : decide (half < 8) = false := decide_eq_false c1
  have e1 : 8 ≤ half := by omega
  clear c1
  by_cases c2 : 2000 < half
  · have d2 : decide (2000 < half) = true := decide_eq_true c2
    clear c2
    go_enter Try.func17, Try.ntmps17
    go_wp2_with fail
    refine (HSE.out _ (HREF.out _ (bl_alloc (bl_alloc (Below.refl _ _) _) _))).mono ?_
    rintro e w1 ⟨rfl, b1⟩
    have r3 : rowAt w1 w.heap.size 24 [.int .i64 base, .int .i64 half, .int .i64 space, .int .i64 top] := ((rowAt.made w _ _).alloc _).below b1 (by simp <;> omega)
    have r4 : rowAt w1 (w.heap.size + 1) 51 [.slice none 0 0, .bool false] := (rowAt.made_at (w := w.alloc _) _ _ (by simp)).below b1 (by simp <;> omega)
    have HB : Hid (Below w.heap.size w w1) := bl_call (bl_alloc (bl_alloc (Below.refl _ _) _) _) b1
    have HREF2 : Hid (∀ n, RefIn (w1.drewN n) p bw rv A) := fun n => HREF.out _ (bl_drewN HB.out n)
    have c0 := r3.cell 0
    have c1 := r3.cell 1
    have c2 := r3.cell 2
    have c3 := r3.cell 3
    have p0 := r4.cell 0
    have p1 := r4.cell 1
    have q0 := r4.free 0
    have q1 := r4.free 1
    have hz1 := r4.lt
    simp only [List.getElem?_cons_zero, List.getElem?_cons_succ] at c0 c1 c2 c3 p0 p1
    clear r3 r4 b1
    go_wp2
    go_quiet ((go_at_call 51; exact Calls.quiet_of_same (HSZ.out _ (HREF2.out _))))
    go_wp2
    refine bodyPost_ret (v := placesV none 0 0 false) (by simp [results, Try.results17, go_sem, hz1, p0, p1]) rfl ⟨?_, .inr ⟨HNO.out, rfl⟩⟩
    repeat (first | exact bl_drewN HB.out _ | refine bl_set ?_ (by simp) _)
  have d2 : decide (2000 < half) = false := decide_eq_false c2
  have e2 : half ≤ 2000 := by omega
  clear c2
  obtain ⟨Z, hZ⟩ : ∃ Z, Z = A.size base := ⟨_, rfl⟩
  rw [← hZ] at HSZ
  have HZ := Lib.hid hZ
  clear hZ
  by_cases c3 : Z ≠ 2 * half
  · have d3 : (Z != 2 * half) = true := by simpa using c3
    clear c3
    go_enter Try.func17, Try.ntmps17
    go_wp2_with fail
    refine (HSE.out _ (HREF.out _ (bl_alloc (bl_alloc (Below.refl _ _) _) _))).mono ?_
    rintro e w1 ⟨rfl, b1⟩
    have r3 : rowAt w1 w.heap.size 24 [.int .i64 base, .int .i64 half, .int .i64 space, .int .i64 top] := ((rowAt.made w _ _).alloc _).below b1 (by simp <;> omega)
    have r4 : rowAt w1 (w.heap.size + 1) 51 [.slice none 0 0, .bool false] := (rowAt.made_at (w := w.alloc _) _ _ (by simp)).below b1 (by simp <;> omega)
    have HB : Hid (Below w.heap.size w w1) := bl_call (bl_alloc (bl_alloc (Below.refl _ _) _) _) b1
    have HREF2 : Hid (∀ n, RefIn (w1.drewN n) p bw rv A) := fun n => HREF.out _ (bl_drewN HB.out n)
    have c0 := r3.cell 0
    have c1 := r3.cell 1
    have c2 := r3.cell 2
    have c3 := r3.cell 3
    have p0 := r4.cell 0
    have p1 := r4.cell 1
    have q0 := r4.free 0
    have q1 := r4.free 1
    have hz1 := r4.lt
    simp only [List.getElem?_cons_zero, List.getElem?_cons_succ] at c0 c1 c2 c3 p0 p1
    clear r3 r4 b1
    go_wp2
    go_quiet ((go_at_call 51; exact Calls.quiet_of_same (HSZ.out _ (HREF2.out _))))
    go_wp2
    refine bodyPost_ret (v := placesV none 0 0 false) (by simp [results, Try.results17, go_sem, hz1, p0, p1]) rfl ⟨?_, .inr ⟨HNO.out, rfl⟩⟩
    repeat (first | exact bl_drewN HB.out _ | refine bl_set ?_ (by simp) _)
  have d3 : (Z != 2 * half) = false := by simpa using c3
  have HC := Lib.hid (Classical.not_not.1 c3)
  clear c3
  by_cases c4 : space < 0
  · have d4 : decide (space < 0) = true := decide_eq_true c4
    clear c4
    go_enter Try.func17, Try.ntmps17
    go_wp2_with fail
    refine (HSE.out _ (HREF.out _ (bl_alloc (bl_alloc (Below.refl _ _) _) _))).mono ?_
    rintro e w1 ⟨rfl, b1⟩
    have r3 : rowAt w1 w.heap.size 24 [.int .i64 base, .int .i64 half, .int .i64 space, .int .i64 top] := ((rowAt.made w _ _).alloc _).below b1 (by simp <;> omega)
    have r4 : rowAt w1 (w.heap.size + 1) 51 [.slice none 0 0, .bool false] := (rowAt.made_at (w := w.alloc _) _ _ (by simp)).below b1 (by simp <;> omega)
    have HB : Hid (Below w.heap.size w w1) := bl_call (bl_alloc (bl_alloc (Below.refl _ _) _) _) b1
    have HREF2 : Hid (∀ n, RefIn (w1.drewN n) p bw rv A) := fun n => HREF.out _ (bl_drewN HB.out n)
    have c0 := r3.cell 0
    have c1 := r3.cell 1
    have c2 := r3.cell 2
    have c3 := r3.cell 3
    have p0 := r4.cell 0
    have p1 := r4.cell 1
    have q0 := r4.free 0
    have q1 := r4.free 1
    have hz1 := r4.lt
    simp only [List.getElem?_cons_zero, List.getElem?_cons_succ] at c0 c1 c2 c3 p0 p1
    clear r3 r4 b1
    go_wp2
    go_quiet ((go_at_call 51; exact Calls.quiet_of_same (HSZ.out _ (HREF2.out _))))
    go_wp2
    refine bodyPost_ret (v := placesV none 0 0 false) (by simp [results, Try.results17, go_sem, hz1, p0, p1]) rfl ⟨?_, .inr ⟨HNO.out, rfl⟩⟩
    repeat (first | exact bl_drewN HB.out _ | refine bl_set ?_ (by simp) _)
  have d4 : decide (space < 0) = false := decide_eq_false c4
  have e4 : 0 ≤ space := by omega
  clear c4
  by_cases c5 : 1 < space
  · have d5 : decide (1 < space) = true := decide_eq_true c5
    clear c5
    go_enter Try.func17, Try.ntmps17
    go_wp2_with fail
    refine (HSE.out _ (HREF.out _ (bl_alloc (bl_alloc (Below.refl _ _) _) _))).mono ?_
    rintro e w1 ⟨rfl, b1⟩
    have r3 : rowAt w1 w.heap.size 24 [.int .i64 base, .int .i64 half, .int .i64 space, .int .i64 top] := ((rowAt.made w _ _).alloc _).below b1 (by simp <;> omega)
    have r4 : rowAt w1 (w.heap.size + 1) 51 [.slice none 0 0, .bool false] := (rowAt.made_at (w := w.alloc _) _ _ (by simp)).below b1 (by simp <;> omega)
    have HB : Hid (Below w.heap.size w w1) := bl_call (bl_alloc (bl_alloc (Below.refl _ _) _) _) b1
    have HREF2 : Hid (∀ n, RefIn (w1.drewN n) p bw rv A) := fun n => HREF.out _ (bl_drewN HB.out n)
    have c0 := r3.cell 0
    have c1 := r3.cell 1
    have c2 := r3.cell 2
    have c3 := r3.cell 3
    have p0 := r4.cell 0
    have p1 := r4.cell 1
    have q0 := r4.free 0
    have q1 := r4.free 1
    have hz1 := r4.lt
    simp only [List.getElem?_cons_zero, List.getElem?_cons_succ] at c0 c1 c2 c3 p0 p1
    clear r3 r4 b1
    go_wp2
    go_quiet ((go_at_call 51; exact Calls.quiet_of_same (HSZ.out _ (HREF2.out _))))
    go_wp2
    refine bodyPost_ret (v := placesV none 0 0 false) (by simp [results, Try.results17, go_sem, hz1, p0, p1]) rfl ⟨?_, .inr ⟨HNO.out, rfl⟩⟩
    repeat (first | exact bl_drewN HB.out _ | refine bl_set ?_ (by simp) _)
  have d5 : decide (1 < space) = false := decide_eq_false c5
  have e5 : space ≤ 1 := by omega
  clear c5
  exfalso
  have h0 := e0.out
  have := lies_of (A := A) (base := base) (half := half) (space := space) (top := top) (by unfold numsB; exact decide_eq_true (by omega)) (by rw [← HZ.out]; exact HC.out)
  rw [HL.out] at this
  cases this
end Go.Proofs.Ytejbblhlbilpnaa
