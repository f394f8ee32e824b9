/-
  The statements' copy of an object (OwnObject); both arenas' words are the same (Two.Same).
  Conditions: as each states.
-/
import Derived.Test.YtejbblhlbilpnaaZOwnO
import Derived.Test.YtejbblhlbilpnaaZTwo
import Derived.Test.YtejbblhlbilpnaaZReE
namespace Go.Proofs.Ytejbblhlbilpnaa
set_option linter.unusedSimpArgs false
open Go.ChangeShapes Go.WideShapes Go.ChangeAt Go.RowKit
set_option maxRecDepth 100000

theorem owns_four {w : World} {B : Nat} {e : TypeId} {size : Nat} {v : Value} {n : Nat} {xs : List Value} (h : w.ownsRow B e size v n xs) (p : Nat) (hp : p < B) (a b c d : Value) :
    ((((w.setCell ⟨p, 0, none⟩ a).setCell ⟨p, 1, none⟩ b).setCell ⟨p, 2, none⟩ c).setCell ⟨p, 3, none⟩ d).ownsRow B e size v n xs :=
  owns_set' (owns_set' (owns_set' (owns_set' h _ _ hp) _ _ hp) _ _ hp) _ _ hp

set_option maxHeartbeats 4000000 in
theorem ownObject_any {w : World} (k t : Int) (a : Option Addr) (c : Nat) (xs : List Int) (s : ByteArray) (hr : readsAt w (.slice a xs.length c) xs.length (wordsL xs)) (hl : xs.length ≤ 1000000) :
    Calls Try.prog 12 #[obj k t a xs.length c s] w fun e w' => ∃ b d, e = .returned (obj k t b xs.length d s) ∧ w'.ownsRow w.heap.size 29 1 (.slice b xs.length d) xs.length (wordsL xs) ∧ Below w.heap.size w w' := by
  have hz : xs.length = 0 ∨ 0 < (wordsL xs).length := by cases xs <;> simp
  have HRD : Hid (∀ W, Below w.heap.size w W → readsAt W (.slice a xs.length c) xs.length (wordsL xs)) := fun W hb => hr.below hz hb
  have HL := Lib.hid hl
  have HOW : Hid (∀ W, readsAt W (.slice a xs.length c) xs.length (wordsL xs) → Calls Try.prog 39 #[.slice a xs.length c] W fun e w' => ∃ b d, e = .returned (.slice b xs.length d) ∧ w'.ownsRow W.heap.size 29 1 (.slice b xs.length d) xs.length (wordsL xs) ∧ Below W.heap.size W w') := fun W hW => ownWords_any hW hl
  clear hr hz hl
  generalize xs.length = n at *
  go_enter Try.func12, Try.ntmps12
  go_wp2_with fail
  refine (HOW.out _ (HRD.out _ (bl_alloc (bl_alloc (Below.refl _ _) _) _))).mono ?_
  rintro e w1 ⟨b, d, rfl, ho, b1⟩
  have r1 : rowAt w1 w.heap.size 28 [.int .i64 k, .int .i64 t, .slice a n c, .string s] := ((rowAt.made w _ _).alloc _).below b1 (by simp <;> omega)
  have r2 : rowAt w1 (w.heap.size + 1) 28 [.int .i64 0, .int .i64 0, .slice none 0 0, .string ⟨#[]⟩] := (rowAt.made_at (w := w.alloc _) _ _ (by simp)).below b1 (by simp <;> omega)
  have HB := Lib.hid (bl_call (bl_alloc (bl_alloc (Below.refl w.heap.size w) _) _) b1)
  replace ho : w1.ownsRow (w.heap.size + 1 + 1) 29 1 (.slice b n d) n (wordsL xs) := by simpa using ho
  have HO := Lib.hid ho
  have c0 := r1.cell 0
  have c1 := r1.cell 1
  have c2 := r1.cell 2
  have c3 := r1.cell 3
  have f2 := r1.free 2
  have l1 := r1.lt
  have z0 := r2.cell 0
  have z1 := r2.cell 1
  have z2 := r2.cell 2
  have z3 := r2.cell 3
  have y0 := r2.free 0
  have y1 := r2.free 1
  have y2 := r2.free 2
  have y3 := r2.free 3
  have l2 := r2.lt
  simp only [List.getElem?_cons_zero, List.getElem?_cons_succ] at c0 c1 c2 c3 z0 z1 z2 z3
  clear r1 r2 b1 ho
  go_wp2
  refine bodyPost_ret (v := obj k t b n d s) ?hres ?hdef ⟨b, d, rfl, ?ho, ?hb⟩
  case hdef => rfl
  case hres => simp [results, Try.results12, go_sem, l2, z0, z1, z2, z3]
  case ho => exact owns_base (owns_four (owns_set' HO.out _ _ (by show w.heap.size < w.heap.size + 1 + 1; omega)) _ (by omega) _ _ _ _) fun g hg => by have := (HO.out.lt g hg).1; omega
  case hb => repeat (first | exact HB.out | refine bl_set ?_ (by simp) _)

/-- Both arenas have the same words in a region, and the first region has none but 0. -/
theorem same_any {w : World} {p p2 bw : Nat} {rv : Value} {F : Nat → Prop} {A : Ar} (h1 : Held w p F A) (h2 : RefIn w p2 bw rv A) {base : Int} {n : Nat} (hf : A.find base = some n) (h3 : A.region 0 = [0, 0, 0]) (h4 : A.there 0 = true) (hn : n ≤ 100000) :
    Calls Try.prog 25 #[.agg #[.pointer (some ⟨p, 0, none⟩), .pointer (some ⟨p2, 0, none⟩)], .int .i64 base] w fun e w' => e = .returned (.bool true) ∧ Below w.heap.size w w' := by
  have hok := h1.ok
  have hlen : (A.region base).length = n := by
    have hb := hok.bound hf
    unfold Ar.region
    rw [hf]
    simp only [List.length_take, List.length_drop]
    omega
  have ht : A.there base = true := by unfold Ar.there; rw [hf]; rfl
  have HW1 : Hid (∀ W, Below w.heap.size w W → Calls Try.prog 52 #[.pointer (some ⟨p, 0, none⟩), .int .i64 base] W fun e w' => ∃ a c, e = .returned (.tuple #[.slice a n c, .bool true]) ∧ readsAt w' (.slice a n c) n (wordsL (A.region base)) ∧ Below W.heap.size W w') := fun W hb => by
    refine (words_h (h1.below hb) base).mono ?_
    rintro e w' ⟨v, he, ho, hb2⟩
    rw [hlen] at ho
    obtain ⟨a, c, rfl⟩ := owns_slice ho
    exact ⟨a, c, by rw [he, ht], readsAt.of_owns ho, hb2⟩
  have HW0 : Hid (∀ W, Below w.heap.size w W → Calls Try.prog 52 #[.pointer (some ⟨p, 0, none⟩), .int .i64 0] W fun e w' => ∃ a c, e = .returned (.tuple #[.slice a 3 c, .bool true]) ∧ readsAt w' (.slice a 3 c) 3 (wordsL [0, 0, 0]) ∧ Below W.heap.size W w') := fun W hb => by
    refine (words_h (h1.below hb) 0).mono ?_
    rintro e w' ⟨v, he, ho, hb2⟩
    rw [h3] at ho
    obtain ⟨a, c, rfl⟩ := owns_slice ho
    exact ⟨a, c, by rw [he, h4]; rfl, readsAt.of_owns ho, hb2⟩
  have HW2 : Hid (∀ W, Below w.heap.size w W → Calls Try.prog 47 #[.pointer (some ⟨p2, 0, none⟩), .int .i64 base] W fun e w' => ∃ a c, e = .returned (.slice a n c) ∧ readsAt W (.slice a n c) n (wordsL (A.region base)) ∧ W = w') := fun W hb => by
    refine (refWords_any (RefIn.upon h2 (Upon.of_below hb) fun _ _ h => (h : False)) base).mono ?_
    rintro e w' ⟨v, he, ho, hb2⟩
    rw [hlen] at ho
    obtain ⟨a, c, rfl, ho⟩ := ho
    exact ⟨a, c, he, ⟨a, c, rfl, ho⟩, hb2⟩
  have HKW : Hid (∀ (W : World) (a a2 : Option Addr) (c c2 : Nat), readsAt W (.slice a n c) n (wordsL (A.region base)) → readsAt W (.slice a2 n c2) n (wordsL (A.region base)) → Calls Try.prog 32 #[.slice a n c, .slice a2 n c2] W fun e w' => e = .returned (.bool true) ∧ Below W.heap.size W w') := fun W a a2 c c2 g1 g2 =>
    keepWords_h (xs := A.region base) (ys := A.region base) (by rw [hlen]; exact g1) (by rw [hlen]; exact g2) (by omega) (decide_eq_true rfl)
  have hz : n = 0 ∨ 0 < (wordsL (A.region base)).length := by rw [List.length_map, hlen]; omega
  have HZ := Lib.hid hz
  clear hok hlen ht h1 h2 hf h3 h4 hz
  generalize A.region base = R at *
  go_enter Try.func25, Try.ntmps25
  go_wp2_with fail
  refine (HW1.out _ (bl_alloc (Below.refl _ _) _)).mono ?_
  rintro e w1 ⟨a1, c1, rfl, g1, b1⟩
  have r1 : rowAt w1 w.heap.size 36 [.pointer (some ⟨p, 0, none⟩), .pointer (some ⟨p2, 0, none⟩)] := (rowAt.made w _ _).below b1 (by simp)
  have HB1 := Lib.hid (bl_call (bl_alloc (Below.refl w.heap.size w) _) b1)
  have R1 := Lib.hid r1
  have G1 := Lib.hid g1
  have d0 := r1.cell 0
  have d1 := r1.cell 1
  have l1 := r1.lt
  simp only [List.getElem?_cons_zero, List.getElem?_cons_succ] at d0 d1
  clear r1 g1 b1
  go_wp2_with fail
  refine (HW0.out _ HB1.out).mono ?_
  rintro e w2 ⟨a2, c2, rfl, g2, b2⟩
  have R2 := Lib.hid (R1.out.below b2 R1.out.lt)
  have HB2 := Lib.hid (bl_call HB1.out b2)
  have G12 := Lib.hid (G1.out.below HZ.out b2)
  have G2 := Lib.hid g2
  clear b2 g2 d0 d1 l1 HB1 R1 G1
  have d0 := R2.out.cell 0
  have d1 := R2.out.cell 1
  have l1 := R2.out.lt
  simp only [List.getElem?_cons_zero, List.getElem?_cons_succ] at d0 d1
  go_wp2_with fail
  refine (HW2.out _ HB2.out).mono ?_
  rintro e w3 ⟨a3, c3, rfl, g3, rfl⟩
  go_wp2_with fail
  refine (HKW.out _ _ _ _ _ G12.out g3).mono ?_
  rintro e w4 ⟨rfl, b4⟩
  have HB4 := Lib.hid (bl_call HB2.out b4)
  have G24 := Lib.hid (G2.out.below (.inr (by simp)) b4)
  clear b4 g3 d0 d1 l1 HB2 G12 G2
  go_wp2_with fail
  have hk2 : readsAt (w4.alloc (.cells #[.int .u64 0, .int .u64 0, .int .u64 0] 29)) (.slice (some ⟨w4.heap.size, 0, none⟩) 3 3) 3 (wordsL [0, 0, 0]) := readsAt.row (rest := []) (rowAt.made w4 _ _)
  refine (keepWords_h (xs := [0, 0, 0]) (ys := [0, 0, 0]) (G24.out.below (.inr (by simp)) (bl_alloc (Below.refl _ _) _)) hk2 (by decide) (b := true) (decide_eq_true rfl)).mono ?_
  rintro e w5 ⟨rfl, b5⟩
  have HB5 := Lib.hid (bl_call (bl_alloc HB4.out _) b5)
  clear b5 hk2
  go_wp2
  go_ret
  exact ⟨rfl, HB5.out⟩
end Go.Proofs.Ytejbblhlbilpnaa
