/-
  The closed part of the statements of layer 5: 'wakes' is true in any world.
  Conditions: none.
-/
import Derived.Test.YtgcmkhbpkmfpkaaQL
namespace Go.Proofs.Ytgcmkhbpkmfpkaa
open Go.ChangeShapes Go.WideShapes Go.ChangeAt Go.RowKit
set_option linter.unusedVariables false
set_option linter.unusedSimpArgs false
set_option maxRecDepth 100000

theorem qpush_to {w : World} {q : Nat} {F : Nat → Prop} {s s' : List En} (h : QH w q F s) (k r : Int) (hk : ∀ x ∈ s, x.1 ≠ k) (hl : s.length < 100000) (hs : insE (k, r) s = s') :
    Calls Try.prog 8 #[.pointer (some ⟨q, 0, none⟩), .int .i64 k, .int .i64 r] w fun x w' => x = .returned (.bool true) ∧ ∃ G, QH w' q G s' ∧ StepQ F G w w' := by
  subst hs
  exact qpush_new h (k, r) hk hl
theorem qpop_to {w : World} {q : Nat} {F : Nat → Prop} {t : List En} {k r : Int} (h : QH w q F ((k, r) :: t)) :
    Calls Try.prog 10 #[.pointer (some ⟨q, 0, none⟩)] w fun x w' => x = .returned (.tuple #[.int .i64 k, .int .i64 r, .bool true]) ∧ QH w' q F t ∧ StepQ F F w w' := qpop_some h
theorem qdrop_to {w : World} {q : Nat} {F : Nat → Prop} {s s' : List En} (h : QH w q F s) {k : Int} (hk : ∃ x ∈ s, x.1 = k) (hs : (s.filter fun x => decide (x.1 ≠ k)) = s') :
    Calls Try.prog 11 #[.pointer (some ⟨q, 0, none⟩), .int .i64 k] w fun e w' => e = .returned (.bool true) ∧ QH w' q F s' ∧ StepQ F F w w' := by
  subst hs
  exact qdrop_yes h hk
theorem qlen_to {w : World} {q : Nat} {F : Nat → Prop} {s : List En} (h : QH w q F s) {n : Int} (hn : (s.length : Int) = n) :
    Calls Try.prog 15 #[.pointer (some ⟨q, 0, none⟩)] w fun e w' => e = .returned (.int .i64 n) ∧ w = w' := by
  subst hn
  exact qlen_any h
theorem qpairs_to {w : World} {u v : Value} {xs ys : List (Int × Int)} (hu : readsAt w u xs.length (pairsL xs)) (hv : readsAt w v ys.length (pairsL ys)) (hx : xs.length ≤ 140737488355328) {b : Bool} (hb : decide (xs = ys) = b) :
    Calls Try.prog 13 #[u, v] w fun e w' => e = .returned (.bool b) ∧ Below w.heap.size w w' :=
  (keepPairs_any hu hv hx).mono fun e w' ⟨he, q, hq⟩ => ⟨by rw [he, hb], by rw [hq]; exact below_draws (Below.refl _ _) q⟩

theorem StepQ.below {G : Nat → Prop} {w w' : World} (h : StepQ (fun _ => False) G w w') : Below w.heap.size w w' := h.upon.below fun _ h => h.elim

set_option maxHeartbeats 1600000 in
theorem wakes_any (w : World) :
    Calls Try.prog 7 #[] w fun e w' => e = .returned (.bool true) ∧ Below w.heap.size w w' := by
  go_enter Try.func7, Try.ntmps7
  go_wp2_with fail
  refine (qnew_any w).mono ?_
  rintro x w1 ⟨q, F1, rfl, h1, s1⟩
  have H1 := Lib.hid h1
  have S1 := Lib.hid s1
  clear h1 s1
  go_wp2_with fail
  refine (qpush_to H1.out 3 5 (s' := [(3, 5)]) (by decide) (by decide) (by decide)).mono ?_
  rintro x w2 ⟨rfl, F2, h2, s2⟩
  have H2 := Lib.hid h2
  have S2 := Lib.hid (S1.out.chain s2)
  clear h2 s2
  go_wp2_with fail
  refine (qpush_to H2.out 1 5 (s' := [(1, 5), (3, 5)]) (by decide) (by decide) (by decide)).mono ?_
  rintro x w3 ⟨rfl, F3, h3, s3⟩
  have H3 := Lib.hid h3
  have S3 := Lib.hid (S2.out.chain s3)
  clear h3 s3
  go_wp2_with fail
  refine (qpush_there H3.out (k := 3) (by decide) 1).mono ?_
  rintro x w4 ⟨rfl, rfl⟩
  go_wp2_with fail
  refine (qpush_to H3.out 2 9 (s' := [(1, 5), (3, 5), (2, 9)]) (by decide) (by decide) (by decide)).mono ?_
  rintro x w4 ⟨rfl, F4, h4, s4⟩
  have H4 := Lib.hid h4
  have S4 := Lib.hid (S3.out.chain s4)
  clear h4 s4
  go_wp2_with fail
  refine (qlist_any H4.out).mono ?_
  rintro x w5 ⟨v, rfl, ho5, hb5⟩
  have H5 := Lib.hid (H4.out.below hb5)
  have S5 := Lib.hid (S4.out.chain (StepQ.of_below hb5))
  have hF4 := H4.out.lt
  have HD := Lib.hid hF4
  have HO5 := Lib.hid ho5
  clear hb5 hF4 ho5
  go_wp2_with fail
  refine (qpop_to H5.out).mono ?_
  rintro x w6 ⟨rfl, h6, s6⟩
  have H6 := Lib.hid h6
  have S6 := Lib.hid (S5.out.chain s6)
  have HO6 := Lib.hid (owns_upon HO5.out s6.upon fun g hg hF => by have := (HO5.out.lt g hg).1; have := HD.out g hF; omega)
  clear h6 s6
  go_wp2_with fail
  refine (qdrop_to H6.out (k := 2) (s' := [(3, 5)]) (by decide) (by decide)).mono ?_
  rintro x w7 ⟨rfl, h7, s7⟩
  have H7 := Lib.hid h7
  have S7 := Lib.hid (S6.out.chain s7)
  have HO7 := Lib.hid (owns_upon HO6.out s7.upon fun g hg hF => by have := (HO5.out.lt g hg).1; have := HD.out g hF; omega)
  clear h7 s7
  go_wp2_with fail
  refine (qdrop_no H7.out (k := 2) (by decide)).mono ?_
  rintro x w8 ⟨rfl, rfl⟩
  go_wp2_with fail
  refine (qpop_nil _).mono ?_
  rintro x w8 ⟨rfl, rfl⟩
  go_wp2_with fail
  refine (qpairs_to (xs := [(1, 5), (3, 5), (2, 9)]) (ys := [(1, 5), (3, 5), (2, 9)]) (b := true) ?_ ?_ (by decide) (by decide)).mono ?_
  · exact readsAt.of_owns (owns_upon HO7.out (Upon.alloc (fun _ => False) _ _) fun _ _ h => h)
  · exact readsAt.row (rest := []) (rowAt.made_at _ _ rfl)
  rintro x w9 ⟨rfl, hb9⟩
  have hb8 : Below w7.heap.size w7 w9 := ((Below.refl _ _).alloc (Nat.le_refl _) _).trans (hb9.mono (by simp))
  have H9 := Lib.hid (H7.out.below hb8)
  have S9 := Lib.hid (S7.out.chain (StepQ.of_below hb8))
  clear hb8 hb9
  go_wp2_with fail
  refine (qlen_to H9.out (n := 1) (by decide)).mono ?_
  rintro x w10 ⟨rfl, rfl⟩
  go_wp2_with fail
  refine (qlen_nil _).mono ?_
  rintro x w10 ⟨rfl, rfl⟩
  go_wp2_with fail
  refine (qpush_nil _ _ _).mono ?_
  rintro x w10 ⟨rfl, rfl⟩
  go_wp2_with fail
  go_ret
  exact ⟨rfl, S9.out.below⟩

end Go.Proofs.Ytgcmkhbpkmfpkaa
