/-
  All objects, and the object of a word, as the document tells them (stockpotref03.All, Get), whatever the heap is.
  Conditions: as each states.
-/
import Derived.Test.YtejbblhlbilpnaaZReJ
import Derived.Test.YtejbblhlbilpnaaZObU
import Derived.StillTailTactics
namespace Go.Proofs.Ytejbblhlbilpnaa
set_option linter.unusedVariables false
set_option linter.unusedSimpArgs false
open Go.ChangeShapes Go.WideShapes Go.ChangeAt Go.RowKit
set_option maxRecDepth 100000

theorem reAll_any {w : World} {p bw : Nat} {rv : Value} {A : Ar} (h : RefIn w p bw rv A) (base half space top : Int) :
    Calls Try.prog 17 #[.pointer (some ⟨p, 0, none⟩), heapV base half space top] w (AllT A base half space top w) := by
  cases hl : A.liesB base half space top with
  | true => exact reAll_yes h base half space top hl
  | false => exact reAll_no h base half space top hl

theorem mem_starts : ∀ (obs : List Ob) (k j : Nat), j ∈ starts k obs ↔ k ≤ j ∧ (objAt obs (j - k)).isSome = true
  | [], k, j => by simp [starts, objAt]
  | o :: os, k, j => by
    have hw := o.words_pos
    rw [starts, List.mem_cons, mem_starts os, objAt]
    by_cases hj : j = k
    · subst hj; simp
    · by_cases hlt : j < k
      · constructor
        · rintro (h | ⟨h, _⟩)
          · exact absurd h hj
          · omega
        · rintro ⟨h, _⟩
          omega
      · rw [if_neg (by omega)]
        by_cases hw2 : j - k < o.words
        · rw [if_pos hw2]
          constructor
          · rintro (h | ⟨h, _⟩)
            · exact absurd h hj
            · omega
          · rintro ⟨_, h⟩
            cases h
        · rw [if_neg hw2, show j - k - o.words = j - (k + o.words) by omega]
          constructor
          · rintro (h | ⟨_, h⟩)
            · exact absurd h hj
            · exact ⟨by omega, h⟩
          · rintro ⟨_, h⟩
            exact .inr ⟨by omega, h⟩

/-- A word that is no number's is one of the places just where it refers to an object. -/
theorem mem_places {A : Ar} {base half space top : Int} {obs : List Ob} (ho : A.objs base half space top = some obs) (hf0 : 0 ≤ space * half) {x : Int} (hx : wIs x = false) :
    decide (wRefAt x ∈ A.placesI base half space top) = (refers (space * half) obs x).isSome := by
  have h1 := fieldOk_ref hf0 obs hx
  unfold fieldOk at h1
  rw [hx, Bool.or_false] at h1
  rw [h1]
  apply decide_eq_decide.2
  unfold Ar.placesI
  rw [ho]
  simp only [List.mem_map, mem_starts, Nat.zero_le, true_and, Nat.sub_zero]
  constructor
  · rintro ⟨j, hj, e⟩
    refine ⟨by omega, ?_⟩
    rw [show (wRefAt x - space * half).toNat = j by omega]
    exact hj
  · rintro ⟨h2, h3⟩
    exact ⟨_, h3, by omega⟩

theorem isP_fieldOk {A : Ar} {base half space top : Int} {obs : List Ob} (ho : A.objs base half space top = some obs) (hf0 : 0 ≤ space * half) (x : Int) : isP (A.placesI base half space top) x = fieldOk (space * half) obs x := by
  unfold isP fieldOk
  cases hx : wIs x with
  | true => simp
  | false => rw [Bool.false_or, Bool.or_false, mem_places ho hf0 hx]

/-- The object at a place of the region's words, up to the heap's top. -/
theorem read_refers {A : Ar} (ok : A.Ok) {base half space top : Int} {obs : List Ob} (ho : A.objs base half space top = some obs) {x : Int} {m : Nat} (hr : refers (space * half) obs x = some m) :
    readP ((A.region base).take (space * half + top).toNat) (wRefAt x) = objAt obs m := by
  obtain ⟨hall, _, hsemi, hl⟩ := objs_ok ok ho
  have hn := lies_nums hl
  unfold refers at hr
  split at hr
  · rename_i hc
    simp only [Bool.and_eq_true, decide_eq_true_eq] at hc
    obtain ⟨⟨h1, h2⟩, h3⟩ := hc
    cases hr
    have hk : x % 2 = 0 ∧ x ≤ 8589934590 := by unfold wOk at h1; exact of_decide_eq_true h1
    have e1 : wRefAt x = wAt x := by unfold wRefAt wAt; rw [if_pos hk, if_pos hk]
    obtain ⟨o, hob⟩ := Option.isSome_iff_exists.1 h3
    obtain ⟨rest, hd, _⟩ := objAt_words hob
    unfold readP
    rw [e1, if_pos (by omega), hob]
    have e2 : ((A.region base).take (space * half + top).toNat).drop (wAt x).toNat = (flat obs).drop (wAt x - space * half).toNat := by
      rw [← hsemi]
      unfold Ar.semi
      rw [show (space * half + top).toNat = (space * half).toNat + top.toNat by omega, show (wAt x).toNat = (space * half).toNat + (wAt x - space * half).toNat by omega, ← List.drop_drop, List.drop_take, Nat.add_sub_cancel_left]
    rw [e2, hd]
    exact decode_lay (hall o (objAt_mem obs _ o hob)).1 rest
  · cases hr
end Go.Proofs.Ytejbblhlbilpnaa

/-
  The object of a word, as the document tells it (stockpotref03.Get).
  Conditions: as each states.
-/
namespace Go.Proofs.Ytejbblhlbilpnaa
set_option linter.unusedVariables false
set_option linter.unusedSimpArgs false
open Go.ChangeShapes Go.WideShapes Go.ChangeAt Go.RowKit
set_option maxRecDepth 100000

set_option maxHeartbeats 8000000 in
theorem reGet_none {w : World} {p bw : Nat} {rv : Value} {A : Ar} (h : RefIn w p bw rv A) (base half space top x : Int) (hx : fitW x) (ho : A.objs base half space top = none) :
    Calls Try.prog 15 #[.pointer (some ⟨p, 0, none⟩), heapV base half space top, .int .u64 x] w (ReadT none w) := by
  have HREF : Hid (∀ W, Below w.heap.size w W → RefIn W p bw rv A) := fun W hb => RefIn.upon h (Upon.of_below hb) fun _ _ h => (h : False)
  have HALL : Hid (∀ W, Below w.heap.size w W → Calls Try.prog 17 #[.pointer (some ⟨p, 0, none⟩), heapV base half space top] W fun e w' => e = .returned (placesV none 0 0 false) ∧ Below W.heap.size W w') := fun W hb => by
    refine (reAll_any (HREF.out W hb) base half space top).mono ?_
    rintro e w' ⟨b1, ⟨obs, a, c, ho2, _, _⟩ | ⟨_, he⟩⟩
    · rw [ho] at ho2; cases ho2
    · exact ⟨he, b1⟩
  clear ho h hx
  go_enter Try.func15, Try.ntmps15
  go_wp2_with fail
  refine (HALL.out _ (bl_alloc (bl_alloc (Below.refl _ _) _) _)).mono ?_
  rintro e w1 ⟨rfl, b1⟩
  have r6 : rowAt w1 (w.heap.size + 1) 45 [.int .i64 0, .int .i64 0, .slice none 0 0, .string ⟨#[]⟩, .bool false] := (rowAt.made_at (w := w.alloc _) _ _ (by simp)).below b1 (by simp <;> omega)
  have HB := Lib.hid (bl_call (bl_alloc (bl_alloc (Below.refl w.heap.size w) _) _) b1)
  have z0 := r6.cell 0
  have z1 := r6.cell 1
  have z2 := r6.cell 2
  have z3 := r6.cell 3
  have z4 := r6.cell 4
  have y0 := r6.free 0
  have y1 := r6.free 1
  have y2 := r6.free 2
  have y3 := r6.free 3
  have y4 := r6.free 4
  have lz := r6.lt
  simp only [List.getElem?_cons_zero, List.getElem?_cons_succ] at z0 z1 z2 z3 z4
  clear b1 r6
  go_wp2
  refine bodyPost_ret (v := zeroRead) ?hres ?hdef ⟨?hb, .inr ⟨rfl, rfl⟩⟩
  case hdef => rfl
  case hres => simp [results, Try.results15, go_sem, lz, z0, z1, z2, z3, z4]
  case hb => repeat (first | refine bl_set ?_ (by simp) _ | refine bl_alloc ?_ _ | exact HB.out)
set_option maxHeartbeats 8000000 in
theorem reGet_int {w : World} {p bw : Nat} {rv : Value} {A : Ar} (h : RefIn w p bw rv A) (base half space top x : Int) (hx : fitW x) {obs : List Ob} (ho : A.objs base half space top = some obs) (hw : wIs x = true) :
    Calls Try.prog 15 #[.pointer (some ⟨p, 0, none⟩), heapV base half space top, .int .u64 x] w (ReadT none w) := by
  have HREF : Hid (∀ W, Below w.heap.size w W → RefIn W p bw rv A) := fun W hb => RefIn.upon h (Upon.of_below hb) fun _ _ h => (h : False)
  have HALL : Hid (∀ W, Below w.heap.size w W → Calls Try.prog 17 #[.pointer (some ⟨p, 0, none⟩), heapV base half space top] W fun e w' => ∃ a c, e = .returned (placesV a (A.placesI base half space top).length c true) ∧ readsAt w' (.slice a (A.placesI base half space top).length c) (A.placesI base half space top).length (intsL (A.placesI base half space top)) ∧ Below W.heap.size W w') := fun W hb => by
    refine (reAll_any (HREF.out W hb) base half space top).mono ?_
    rintro e w' ⟨b1, ⟨obs2, a, c, _, he, how⟩ | ⟨ho2, _⟩⟩
    · exact ⟨a, c, he, readsAt.of_owns how, b1⟩
    · rw [ho] at ho2; cases ho2
  have hI := refIs_any x hx.1 (by have := hx.2; omega)
  rw [hw] at hI
  have HI := Lib.hid hI
  clear ho h hx hw hI
  generalize A.placesI base half space top = L at *
  go_enter Try.func15, Try.ntmps15
  go_wp2_with fail
  refine (HALL.out _ (bl_alloc (bl_alloc (Below.refl _ _) _) _)).mono ?_
  rintro e w1 ⟨a, c, rfl, _, b1⟩
  have r6 : rowAt w1 (w.heap.size + 1) 45 [.int .i64 0, .int .i64 0, .slice none 0 0, .string ⟨#[]⟩, .bool false] := (rowAt.made_at (w := w.alloc _) _ _ (by simp)).below b1 (by simp <;> omega)
  have HB := Lib.hid (bl_call (bl_alloc (bl_alloc (Below.refl w.heap.size w) _) _) b1)
  have z0 := r6.cell 0
  have z1 := r6.cell 1
  have z2 := r6.cell 2
  have z3 := r6.cell 3
  have z4 := r6.cell 4
  have y0 := r6.free 0
  have y1 := r6.free 1
  have y2 := r6.free 2
  have y3 := r6.free 3
  have y4 := r6.free 4
  have lz := r6.lt
  simp only [List.getElem?_cons_zero, List.getElem?_cons_succ] at z0 z1 z2 z3 z4
  clear b1 r6
  go_wp2_with fail
  refine (HI.out _).mono ?_
  rintro e w2 ⟨rfl, rfl⟩
  go_wp2
  refine bodyPost_ret (v := zeroRead) ?hres ?hdef ⟨?hb, .inr ⟨rfl, rfl⟩⟩
  case hdef => rfl
  case hres => simp [results, Try.results15, go_sem, lz, z0, z1, z2, z3, z4]
  case hb => repeat (first | refine bl_set ?_ (by simp) _ | refine bl_alloc ?_ _ | exact HB.out)
set_option maxHeartbeats 8000000 in
theorem reGet_miss {w : World} {p bw : Nat} {rv : Value} {A : Ar} (h : RefIn w p bw rv A) (base half space top x : Int) (hx : fitW x) {obs : List Ob} (ho : A.objs base half space top = some obs) (hw : wIs x = false) (hr : refers (space * half) obs x = none) :
    Calls Try.prog 15 #[.pointer (some ⟨p, 0, none⟩), heapV base half space top, .int .u64 x] w (ReadT none w) := by
  have HREF : Hid (∀ W, Below w.heap.size w W → RefIn W p bw rv A) := fun W hb => RefIn.upon h (Upon.of_below hb) fun _ _ h => (h : False)
  have HALL : Hid (∀ W, Below w.heap.size w W → Calls Try.prog 17 #[.pointer (some ⟨p, 0, none⟩), heapV base half space top] W fun e w' => ∃ a c, e = .returned (placesV a (A.placesI base half space top).length c true) ∧ readsAt w' (.slice a (A.placesI base half space top).length c) (A.placesI base half space top).length (intsL (A.placesI base half space top)) ∧ Below W.heap.size W w') := fun W hb => by
    refine (reAll_any (HREF.out W hb) base half space top).mono ?_
    rintro e w' ⟨b1, ⟨obs2, a, c, _, he, how⟩ | ⟨ho2, _⟩⟩
    · exact ⟨a, c, he, readsAt.of_owns how, b1⟩
    · rw [ho] at ho2; cases ho2
  have hI := refIs_any x hx.1 (by have := hx.2; omega)
  rw [hw] at hI
  have HI := Lib.hid hI
  have hl := (objs_ok h.ok ho).2.2.2
  have hn := lies_nums hl
  have hpl : (A.placesI base half space top).length ≤ 100000 := by
    unfold Ar.placesI
    rw [ho]
    simp only [List.length_map, starts_length]
    have h1 := len_le_flat obs
    have h5 := semi_length h.ok hl
    rw [(objs_ok h.ok ho).2.2.1] at h5
    omega
  have hisf : isP (A.placesI base half space top) x = false := by
    rw [isP_fieldOk ho (by omega)]
    unfold fieldOk
    rw [hr, hw]
    rfl
  have HIS : Hid (∀ (W : World) (a : Option Addr) (c : Nat), readsAt W (.slice a (A.placesI base half space top).length c) (A.placesI base half space top).length (intsL (A.placesI base half space top)) → Calls Try.prog 45 #[.agg #[.slice a (A.placesI base half space top).length c, .bool true], .int .u64 x] W fun e w' => e = .returned (.bool false) ∧ Below W.heap.size W w') := fun W a c hW => by
    have := is_anyP x hx a c (A.placesI base half space top) true W hW hpl
    rwa [hisf] at this
  have HLL : Hid (∀ L : List Int, L.length = 0 ∨ 0 < (intsL L).length) := fun L => by cases L <;> simp
  have HLP := Lib.hid (HLL.out (A.placesI base half space top))
  clear ho h hx hw hI hl hn hpl hisf hr
  generalize A.placesI base half space top = L at *
  go_enter Try.func15, Try.ntmps15
  go_wp2_with fail
  refine (HALL.out _ (bl_alloc (bl_alloc (Below.refl _ _) _) _)).mono ?_
  rintro e w1 ⟨a, c, rfl, hrd, b1⟩
  have r6 : rowAt w1 (w.heap.size + 1) 45 [.int .i64 0, .int .i64 0, .slice none 0 0, .string ⟨#[]⟩, .bool false] := (rowAt.made_at (w := w.alloc _) _ _ (by simp)).below b1 (by simp <;> omega)
  have HB := Lib.hid (bl_call (bl_alloc (bl_alloc (Below.refl w.heap.size w) _) _) b1)
  have R6 := Lib.hid r6
  have HRD := Lib.hid hrd
  clear b1 r6 hrd
  go_wp2_with fail
  refine (HI.out _).mono ?_
  rintro e w2 ⟨rfl, rfl⟩
  go_wp2_with fail
  refine (HIS.out _ _ _ (HRD.out.below HLP.out (bl_alloc (Below.refl _ _) _))).mono ?_
  rintro e w3 ⟨rfl, b3⟩
  have hb3 : Below w1.heap.size w1 w3 := bl_call (bl_alloc (Below.refl _ _) _) b3
  have HB3 := Lib.hid (bl_call HB.out hb3)
  have r6 := R6.out.below hb3 R6.out.lt
  have z0 := r6.cell 0
  have z1 := r6.cell 1
  have z2 := r6.cell 2
  have z3 := r6.cell 3
  have z4 := r6.cell 4
  have y0 := r6.free 0
  have y1 := r6.free 1
  have y2 := r6.free 2
  have y3 := r6.free 3
  have y4 := r6.free 4
  have lz := r6.lt
  simp only [List.getElem?_cons_zero, List.getElem?_cons_succ] at z0 z1 z2 z3 z4
  clear b3 hb3 r6
  go_wp2
  refine bodyPost_ret (v := zeroRead) ?hres ?hdef ⟨?hb, .inr ⟨rfl, rfl⟩⟩
  case hdef => rfl
  case hres => simp [results, Try.results15, go_sem, lz, z0, z1, z2, z3, z4]
  case hb => repeat (first | refine bl_set ?_ (by simp) _ | refine bl_alloc ?_ _ | exact HB3.out)

theorem reGet_no {w : World} {p bw : Nat} {rv : Value} {A : Ar} (h : RefIn w p bw rv A) (base half space top x : Int) (hx : fitW x) (hno : A.getOb base half space top x = none) :
    Calls Try.prog 15 #[.pointer (some ⟨p, 0, none⟩), heapV base half space top, .int .u64 x] w (ReadT none w) := by
  cases ho : A.objs base half space top with
  | none => exact reGet_none h base half space top x hx ho
  | some obs =>
    cases hw : wIs x with
    | true => exact reGet_int h base half space top x hx ho hw
    | false =>
      refine reGet_miss h base half space top x hx ho hw ?_
      unfold Ar.getOb at hno
      rw [ho] at hno
      simp only at hno
      cases hr : refers (space * half) obs x with
      | none => rfl
      | some m =>
        obtain ⟨o, hob⟩ := refers_some hr
        rw [hr] at hno
        simp only [hob] at hno
        cases hno
end Go.Proofs.Ytejbblhlbilpnaa
