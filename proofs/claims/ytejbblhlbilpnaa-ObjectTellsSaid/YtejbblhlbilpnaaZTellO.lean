/-
  What both packages tell of a heap, in one form: Get, All; the law's own small helpers.
  Conditions: as each states.
-/
import Derived.Test.YtejbblhlbilpnaaZReL
import Derived.Test.YtejbblhlbilpnaaZReM
import Derived.Test.YtejbblhlbilpnaaZWakO
import Derived.Test.YtejbblhlbilpnaaZLay
import Derived.Test.YtejbblhlbilpnaaZArgsR
namespace Go.Proofs.Ytejbblhlbilpnaa
set_option linter.unusedVariables false
set_option linter.unusedSimpArgs false
open Go.ChangeShapes Go.WideShapes Go.ChangeAt Go.RowKit
set_option maxRecDepth 100000

def zeroOb : Ob := ⟨0, 0, [], []⟩
def orOb (q : Option Ob) : Ob := q.getD zeroOb

theorem get_tell {w : World} {p : Nat} {F : Nat → Prop} {A : Ar} (hA : Held w p F A) (base half space top x : Int) (hx : fitW x) :
    Calls Try.prog 14 #[.pointer (some ⟨p, 0, none⟩), heapV base half space top, .int .u64 x] w fun e w' => ∃ a c, e = .returned (.tuple #[obj (orOb (A.getOb base half space top x)).kind (orOb (A.getOb base half space top x)).tag a (orOb (A.getOb base half space top x)).fs.length c ⟨(orOb (A.getOb base half space top x)).tx.toArray⟩, .bool (A.getOb base half space top x).isSome]) ∧
      readsAt w' (.slice a (orOb (A.getOb base half space top x)).fs.length c) (orOb (A.getOb base half space top x)).fs.length (wordsL (orOb (A.getOb base half space top x)).fs) ∧ Below w.heap.size w w' := by
  refine (get_any' hA base half space top x hx).mono ?_
  rintro e w' ⟨hb, ⟨o, a, c, hq, he, ho⟩ | ⟨hq, he⟩⟩
  · rw [hq]
    exact ⟨a, c, he, readsAt.of_owns ho, hb⟩
  · rw [hq]
    exact ⟨none, 0, he, ⟨_, _, rfl, .inl rfl⟩, hb⟩

theorem reGet_tell {w : World} {p bw : Nat} {rv : Value} {A : Ar} (h : RefIn w p bw rv A) (base half space top x : Int) (hx : fitW x) :
    Calls Try.prog 15 #[.pointer (some ⟨p, 0, none⟩), heapV base half space top, .int .u64 x] w fun e w' => ∃ a c, e = .returned (readV (orOb (A.getOb base half space top x)).kind (orOb (A.getOb base half space top x)).tag a (orOb (A.getOb base half space top x)).fs.length c ⟨(orOb (A.getOb base half space top x)).tx.toArray⟩ (A.getOb base half space top x).isSome) ∧
      readsAt w' (.slice a (orOb (A.getOb base half space top x)).fs.length c) (orOb (A.getOb base half space top x)).fs.length (wordsL (orOb (A.getOb base half space top x)).fs) ∧ Below w.heap.size w w' := by
  cases hq : A.getOb base half space top x with
  | none =>
    refine (reGet_no h base half space top x hx hq).mono ?_
    rintro e w' ⟨hb, ⟨o, a, c, s, h1, _⟩ | ⟨_, he⟩⟩
    · cases h1
    · exact ⟨none, 0, he, ⟨_, _, rfl, .inl rfl⟩, hb⟩
  | some o =>
    refine (reGet_yes h base half space top x hx hq).mono ?_
    rintro e w' ⟨hb, ⟨o2, a, c, s, h1, h2, he, ho⟩ | ⟨h1, _⟩⟩
    · cases h1
      have hs : s = ⟨o.tx.toArray⟩ := by
        obtain ⟨sd⟩ := s
        have : sd.toList = o.tx := h2
        rw [← this]
      rw [hs] at he
      exact ⟨a, c, he, readsAt.of_owns ho, hb⟩
    · cases h1

theorem all_tell {w : World} {p : Nat} {F : Nat → Prop} {A : Ar} (hA : Held w p F A) (base half space top : Int) :
    Calls Try.prog 16 #[.pointer (some ⟨p, 0, none⟩), heapV base half space top] w fun e w' =>
      ∃ a c, e = .returned (.tuple #[.slice a (A.placesI base half space top).length c, .bool (A.objs base half space top).isSome]) ∧ readsAt w' (.slice a (A.placesI base half space top).length c) (A.placesI base half space top).length (intsL (A.placesI base half space top)) ∧ Below w.heap.size w w' := by
  refine (all_any hA base half space top).mono ?_
  rintro e w' ⟨v, he, ho, hb⟩
  obtain ⟨a, c, rfl⟩ := owns_slice ho
  exact ⟨a, c, he, readsAt.of_owns ho, hb⟩

theorem reAll_tell {w : World} {p bw : Nat} {rv : Value} {A : Ar} (h : RefIn w p bw rv A) (base half space top : Int) :
    Calls Try.prog 17 #[.pointer (some ⟨p, 0, none⟩), heapV base half space top] w fun e w' =>
      ∃ a c, e = .returned (placesV a (A.placesI base half space top).length c (A.objs base half space top).isSome) ∧ readsAt w' (.slice a (A.placesI base half space top).length c) (A.placesI base half space top).length (intsL (A.placesI base half space top)) ∧ Below w.heap.size w w' := by
  refine (reAll_any h base half space top).mono ?_
  rintro e w' ⟨hb, ⟨obs, a, c, ho, he, how⟩ | ⟨ho, he⟩⟩
  · rw [ho]
    exact ⟨a, c, he, readsAt.of_owns how, hb⟩
  · have hp : A.placesI base half space top = [] := by unfold Ar.placesI; rw [ho]
    rw [ho, hp]
    exact ⟨none, 0, he, ⟨_, _, rfl, .inl rfl⟩, hb⟩

theorem large_any (a : Option Addr) (n c : Nat) (z0 z1 z2 z3 : Int) (w : World) :
    Calls Try.prog 8 #[.agg #[.slice a n c, .int .i64 z0, .int .i64 z1, .int .i64 z2, .int .i64 z3]] w fun e w' => e = .returned (.bool (decide (400 < n))) ∧ Below w.heap.size w w' := by
  by_cases h : 400 < n
  · have hd : decide (400 < n) = true := decide_eq_true h
    have HD := Lib.hid hd
    have h1 : (400 : Int) < (n : Int) := by omega
    clear hd
    go_enter Try.func8, Try.ntmps8
    go_wp2
    go_ret
    exact ⟨by rw [HD.out]; rfl, bl_alloc (Below.refl _ _) _⟩
  · have hd : decide (400 < n) = false := decide_eq_false h
    have HD := Lib.hid hd
    have h1 : (n : Int) ≤ 400 := by omega
    have h2 : decide ((400 : Int) < (n : Int)) = false := decide_eq_false (by omega)
    clear hd h
    go_enter Try.func8, Try.ntmps8
    go_wp2
    go_ret
    exact ⟨by rw [HD.out]; rfl, bl_alloc (Below.refl _ _) _⟩

theorem may_len {k t : Int} {nf nt : Nat} (h : headR k t nf nt = true) : nf ≤ 400 := by
  by_cases h1 : k = 1
  · subst h1; rw [headR_1, decide_eq_true_eq] at h; omega
  · by_cases h2 : k = 2
    · subst h2; rw [headR_2, decide_eq_true_eq] at h; omega
    · by_cases h3 : k = 3
      · subst h3; rw [headR_3, decide_eq_true_eq] at h; omega
      · by_cases h4 : k = 4
        · subst h4; rw [headR_4, decide_eq_true_eq] at h; omega
        · rw [headR_other k t nf nt h1 h2 h3 h4] at h; cases h
theorem orOb_len {A : Ar} (ok : A.Ok) (base half space top x : Int) : (orOb (A.getOb base half space top x)).fs.length ≤ 400 := by
  cases hq : A.getOb base half space top x with
  | none => exact Nat.zero_le _
  | some o =>
    show o.fs.length ≤ 400
    unfold Ar.getOb at hq
    cases ho : A.objs base half space top with
    | none => rw [ho] at hq; cases hq
    | some obs =>
      rw [ho] at hq
      simp only at hq
      cases hr : refers (space * half) obs x with
      | none => rw [hr] at hq; cases hq
      | some m =>
        rw [hr] at hq
        have hm := ((objs_ok ok ho).1 o (objAt_mem _ _ _ hq)).1
        rw [Ob.may_eq] at hm
        exact may_len hm
theorem places_len {A : Ar} (ok : A.Ok) (base half space top : Int) : (A.placesI base half space top).length ≤ 100000 := by
  unfold Ar.placesI
  cases ho : A.objs base half space top with
  | none => exact Nat.zero_le _
  | some obs =>
    simp only [List.length_map, starts_length]
    have h1 := len_le_flat obs
    have hl := (objs_ok ok ho).2.2.2
    have h5 := semi_length ok hl
    have hn := lies_nums hl
    rw [(objs_ok ok ho).2.2.1] at h5
    omega

end Go.Proofs.Ytejbblhlbilpnaa
