/-
  The calls that only look: 'look' of whatever heap, 'Good', 'All'.
  Conditions: as each states.
-/
import Derived.Test.YtnjpjhlodamanaaObN
namespace Go.Proofs.Ytnjpjhlodamanaa
open Go.ChangeShapes Go.WideShapes Go.ChangeAt Go.RowKit
set_option linter.unusedVariables false
set_option linter.unusedSimpArgs false
set_option maxRecDepth 100000

theorem look_out2 (base half space top : Int) (w : World) (pa : Option Addr)
    (hl : ∀ W : World, Below w.heap.size w W → Calls Try.prog 45 #[.pointer pa, heapV base half space top] W fun e w' => e = .returned (.bool false) ∧ Below W.heap.size W w') :
    Calls Try.prog 29 #[.pointer pa, heapV base half space top] w fun e w' => e = .returned (.tuple #[zeroView, .bool false]) ∧ Below w.heap.size w w' := by
  have HL := Lib.hid hl
  clear hl
  go_enter Try.func29, Try.ntmps29
  go_wp2_with fail
  refine (HL.out _ (bl_alloc (bl_alloc (Below.refl _ _) _) _)).mono ?_
  rintro e w1 ⟨rfl, b1⟩
  obtain ⟨hc1, hf1⟩ := bcell b1
  have hz := b1.size
  simp at hz
  have hz1 : w.heap.size + 1 < w1.heap.size := by omega
  go_wp2
  refine bodyPost_ret (v := .tuple #[zeroView, .bool false]) (by simp [results, Try.results29, go_sem, hc1, hz1]) rfl ⟨rfl, ?_⟩
  repeat (first | exact Below.refl _ _ | refine bl_alloc ?_ _ | refine bl_drew ?_ | refine bl_set ?_ (by simp) _ | refine bl_call ?_ b1)

/-- What 'look' tells. -/
def LookT (A : Ar) (base half space top : Int) (w : World) (e : Ending) (w' : World) : Prop :=
  Below w.heap.size w w' ∧ ((∃ obs bw bh T, A.objs base half space top = some obs ∧ 0 ≤ space * half ∧ space * half ≤ 2000 ∧ T ≤ 2000 ∧ top = (T : Nat) ∧ e = .returned (.tuple #[viewV (space * half) (some ⟨bw, 0, none⟩) (some ⟨bh, 0, none⟩) T T, .bool true]) ∧ rowAt w' bw 39 ((flat obs).map (Value.int .u64)) ∧ rowAt w' bh 4 (bools (marks obs)) ∧ (flat obs).length = T) ∨
    (A.objs base half space top = none ∧ e = .returned (.tuple #[zeroView, .bool false])))

theorem objs_ok {A : Ar} (ok : A.Ok) {base half space top : Int} {obs : List Ob} (h : A.objs base half space top = some obs) : AllOk obs ∧ fieldsOk (space * half) obs = true ∧ A.semi base half space top = flat obs ∧ A.liesB base half space top = true := by
  unfold Ar.objs at h
  split at h
  · rename_i hl
    split at h
    · rename_i os hp
      split at h
      · rename_i hf
        cases h
        obtain ⟨h1, h2⟩ := parse_some _ _ _ (semi_fit ok base half space top) hp
        exact ⟨h2, hf, h1, hl⟩
      · cases h
    · cases h
  · cases h

theorem look_any {w : World} {p : Nat} {F : Nat → Prop} {A : Ar} (hA : Held w p F A) (base half space top : Int) :
    Calls Try.prog 29 #[.pointer (some ⟨p, 0, none⟩), heapV base half space top] w (LookT A base half space top w) := by
  cases hl : A.liesB base half space top with
  | true =>
    have hn := lies_nums hl
    obtain ⟨T, rfl⟩ := Int.eq_ofNat_of_zero_le (a := top) (by omega)
    refine (look_yes hA base half space T hl).mono ?_
    rintro e w' ⟨hb, h | h⟩
    · obtain ⟨obs, bw, bh, h1, h2, h3, h4, h5⟩ := h
      exact ⟨hb, .inl ⟨obs, bw, bh, T, h1, by omega, by omega, by omega, rfl, h2, h3, h4, h5⟩⟩
    · exact ⟨hb, .inr h⟩
  | false =>
    have ho : A.objs base half space top = none := by unfold Ar.objs; rw [if_neg (by rw [hl]; decide)]
    refine (look_out2 base half space top w _ fun W hb => ?_).mono fun e w' h => ⟨h.2, .inr ⟨ho, h.1⟩⟩
    have h := lies_any (hA.below hb) base half space top
    rwa [hl] at h

theorem good_any {w : World} {p : Nat} {F : Nat → Prop} {A : Ar} (hA : Held w p F A) (base half space top : Int) :
    Calls Try.prog 17 #[.pointer (some ⟨p, 0, none⟩), heapV base half space top] w fun e w' => e = .returned (.bool (A.objs base half space top).isSome) ∧ Below w.heap.size w w' := by
  have HA := Lib.hid (look_any (hA.below (w' := w.alloc (.cells #[.int .i64 base, .int .i64 half, .int .i64 space, .int .i64 top] 33)) (bl_alloc (Below.refl _ _) _)) base half space top)
  clear hA
  go_enter Try.func17, Try.ntmps17
  go_wp2_with fail
  refine HA.out.mono ?_
  rintro e w1 ⟨b1, ⟨obs, bw, bh, T, h1, h2, h3, h4, h5, rfl, h6, h7, h8⟩ | ⟨h1, rfl⟩⟩
  · have HI : Hid ((A.objs base half space top).isSome = true) := by show _ = _; rw [h1]; rfl
    clear h1 h5 h6 h7 h8
    go_wp2
    go_ret
    exact ⟨ret_bool HI.out.symm, by repeat (first | exact Below.refl _ _ | refine bl_alloc ?_ _ | refine bl_drew ?_ | refine bl_set ?_ (by have := b1.size; simp at this ⊢; omega) _ | refine bl_call ?_ b1)⟩
  · have HI : Hid ((A.objs base half space top).isSome = false) := by show _ = _; rw [h1]; rfl
    clear h1
    go_wp2
    go_ret
    exact ⟨ret_bool HI.out.symm, by repeat (first | exact Below.refl _ _ | refine bl_alloc ?_ _ | refine bl_drew ?_ | refine bl_set ?_ (by have := b1.size; simp at this ⊢; omega) _ | refine bl_call ?_ b1)⟩
theorem good_nil (w : World) (base half space top : Int) :
    Calls Try.prog 17 #[.pointer none, heapV base half space top] w fun e w' => e = .returned (.bool false) ∧ Below w.heap.size w w' := by
  have HA := Lib.hid (fun W => look_out _ base half space top W none rfl (lies_nil base half space top))
  go_enter Try.func17, Try.ntmps17
  go_wp2_with fail
  refine (HA.out _).mono ?_
  rintro e w1 ⟨rfl, b1⟩
  go_wp2
  go_ret
  exact ⟨rfl, by repeat (first | exact Below.refl _ _ | refine bl_alloc ?_ _ | refine bl_drew ?_ | refine bl_set ?_ (by have := b1.size; simp at this ⊢; omega) _ | refine bl_call ?_ b1)⟩

/-- The places of all objects. -/
def Ar.placesI (A : Ar) (base half space top : Int) : List Int := match A.objs base half space top with
  | some obs => (starts 0 obs).map fun (j : Nat) => space * half + (j : Int)
  | none => []

theorem all_any {w : World} {p : Nat} {F : Nat → Prop} {A : Ar} (hA : Held w p F A) (base half space top : Int) :
    Calls Try.prog 24 #[.pointer (some ⟨p, 0, none⟩), heapV base half space top] w fun e w' =>
      ∃ v, e = .returned (.tuple #[v, .bool (A.objs base half space top).isSome]) ∧ w'.ownsRow w.heap.size 3 1 v (A.placesI base half space top).length ((A.placesI base half space top).map (Value.int .i64)) ∧ Below w.heap.size w w' := by
  have HA := Lib.hid (look_any (hA.below (w' := w.alloc (.cells #[.int .i64 base, .int .i64 half, .int .i64 space, .int .i64 top] 33)) (bl_alloc (Below.refl _ _) _)) base half space top)
  clear hA
  go_enter Try.func24, Try.ntmps24
  go_wp2_with fail
  refine HA.out.mono ?_
  rintro e w1 ⟨b1, ⟨obs, bw, bh, T, h1, h2, h3, h4, h5, rfl, h6, h7, h8⟩ | ⟨h1, rfl⟩⟩
  · have HI : Hid ((A.objs base half space top).isSome = true ∧ A.placesI base half space top = markedI (space * half) 0 (marks obs)) := by
      refine ⟨by rw [h1]; rfl, ?_⟩
      rw [markedI_marks]
      unfold Ar.placesI
      rw [h1]
    have hml : (marks obs).length = T := by rw [marks_length]; exact h8
    have hpl := fun (W : World) (hb : Below w1.heap.size w1 W) => places_any (space * half) ⟨h2, h3⟩ (some ⟨bw, 0, none⟩) (some ⟨bh, 0, none⟩) T (marks obs) W (Marks.row (h7.below hb h7.lt) (by omega))
    rw [hml] at hpl
    have HPL := Lib.hid hpl
    clear h1 h5 h6 h7 h8 hpl hml
    generalize space * half = Fi at *
    go_wp2_with fail
    refine (HPL.out _ (bl_alloc (Below.refl _ _) _)).mono ?_
    rintro e w2 ⟨v, rfl, ho, b2⟩
    have HO := Lib.hid ho
    clear ho
    have HB : Hid (Below w.heap.size w w2) := by
      show Below _ _ _
      repeat (first | exact Below.refl _ _ | refine bl_alloc ?_ _ | refine bl_drew ?_ | refine bl_set ?_ (by have := b1.size; simp at this ⊢; omega) _ | refine bl_call ?_ b2 | refine bl_call ?_ b1)
    have hs1 := b1.size
    simp at hs1
    go_wp2
    go_ret2
    refine ⟨v, by rw [HI.out.1]; rfl, ?_, HB.out⟩
    rw [HI.out.2]
    exact owns_base HO.out fun g hg => by
      have := (HO.out.lt g hg).1
      simp at this
      omega
  · have HI : Hid ((A.objs base half space top).isSome = false ∧ A.placesI base half space top = []) := by
      refine ⟨by rw [h1]; rfl, ?_⟩
      unfold Ar.placesI
      rw [h1]
    clear h1
    go_wp2_with fail
    refine (places_any 0 ⟨by omega, by omega⟩ none none 0 [] _ (Marks.none _)).mono ?_
    rintro e w2 ⟨v, rfl, ho, b2⟩
    have HO := Lib.hid ho
    clear ho
    have HB : Hid (Below w.heap.size w w2) := by
      show Below _ _ _
      repeat (first | exact Below.refl _ _ | refine bl_alloc ?_ _ | refine bl_drew ?_ | refine bl_set ?_ (by have := b1.size; simp at this ⊢; omega) _ | refine bl_call ?_ b2 | refine bl_call ?_ b1)
    have hs1 := b1.size
    simp at hs1
    go_wp2
    go_ret2
    refine ⟨v, by rw [HI.out.1]; rfl, ?_, HB.out⟩
    rw [HI.out.2]
    exact owns_base HO.out fun g hg => by
      have := (HO.out.lt g hg).1
      simp at this
      omega
end Go.Proofs.Ytnjpjhlodamanaa
