/-
  Package lex: rows of tokens that read as a list; the statements' own helper over tokens.
  Conditions: as each states.
-/
import Derived.Test.YtlidegofnkmenaaDoorLxP
import Derived.Test.YtlidegofnkmenaaDoorLxS
namespace Go.Proofs.YtlidegofnkmenaaDoor
open Go.ChangeShapes Go.WideShapes Go.ChangeAt Go.RowKit
set_option linter.unusedVariables false
set_option linter.unusedSimpArgs false
set_option maxRecDepth 100000
set_option maxHeartbeats 1000000

/-- v is a slice that reads as the tokens D. -/
def tkAt (w : World) (v : Value) (n : Nat) (D : List PTk) : Prop :=
  ∃ a c, v = .slice a n c ∧ D.length = n ∧ n ≤ c ∧ (n = 0 ∨ ∃ g, a = some ⟨g, 0, none⟩ ∧ g < w.heap.size ∧ ∀ j u, (tkLs D)[j]? = some u → w.cell? ⟨g, j, none⟩ = some u)
theorem tkAt.of_owns {w : World} {B : Nat} {v : Value} {n : Nat} {D : List PTk} (h : w.ownsRow B 39 3 v n (tkLs D)) (hn : D.length = n) : tkAt w v n D := by
  obtain ⟨a, c, rfl⟩ := owns_slice h
  rcases Nat.eq_zero_or_pos n with h0 | h0
  · rcases owns_parts h with ⟨e, h1, h2⟩ | ⟨g, cap, rest, e, hg, hr, e1, e2, e3, e4⟩
    · cases e; exact ⟨_, _, rfl, hn, Nat.le_refl _, .inl rfl⟩
    · cases e; exact ⟨_, _, rfl, hn, e3, .inl h0⟩
  · obtain ⟨g, rfl, _, hg, hc, hcell⟩ := tok_cells h h0
    exact ⟨_, _, rfl, hn, hc, .inr ⟨g, rfl, hg, hcell⟩⟩
theorem tkAt.below {w w' : World} {v : Value} {n : Nat} {D : List PTk} (h : tkAt w v n D) (hb : Below w.heap.size w w') : tkAt w' v n D := by
  obtain ⟨a, c, rfl, hn, hc, h⟩ := h
  refine ⟨a, c, rfl, hn, hc, ?_⟩
  rcases h with h | ⟨g, rfl, hg, hcell⟩
  · exact .inl h
  · exact .inr ⟨g, rfl, Nat.lt_of_lt_of_le hg hb.size, fun j u hj => (hb.cell (p := ⟨g, j, none⟩) hg).trans (hcell j u hj)⟩
theorem tkLs_take (D : List PTk) (k : Nat) (j : Nat) (u : Value) (h : (tkLs (D.take k))[j]? = some u) : (tkLs D)[j]? = some u := by
  have e : tkLs D = tkLs (D.take k) ++ tkLs (D.drop k) := by unfold tkLs; rw [← List.flatMap_append, List.take_append_drop]
  rw [e, List.getElem?_append_left (List.getElem?_eq_some_iff.1 h).1]
  exact h
theorem tkAt.take {w : World} {a : Option Addr} {n c k : Nat} {D : List PTk} (h : tkAt w (.slice a n c) n D) (hk : k ≤ n) : tkAt w (.slice a k c) k (D.take k) := by
  obtain ⟨a', c', e, hn, hc, h⟩ := h
  cases e
  refine ⟨_, _, rfl, by rw [List.length_take]; omega, by omega, ?_⟩
  rcases h with h | ⟨g, rfl, hg, hcell⟩
  · exact .inl (by omega)
  · exact .inr ⟨g, rfl, hg, fun j u hj => hcell j u (tkLs_take D k j u hj)⟩
theorem tkAt.cells {w : World} {a : Option Addr} {n c : Nat} {D : List PTk} (h : tkAt w (.slice a n c) n D) (h0 : 0 < n) : ∃ g, a = some ⟨g, 0, none⟩ ∧ g < w.heap.size ∧ n ≤ c ∧
    ∀ k x, D[k]? = some x → w.cell? ⟨g, k * 3, none⟩ = some (.int .i64 x.1) ∧ w.cell? ⟨g, k * 3 + 1, none⟩ = some (.string ⟨x.2.1.toArray⟩) ∧ w.cell? ⟨g, k * 3 + 2, none⟩ = some (.int .i64 (x.2.2 : Nat)) := by
  obtain ⟨a', c', e, hn, hc, h⟩ := h
  cases e
  rcases h with h | ⟨g, rfl, hg, hcell⟩
  · omega
  · refine ⟨g, rfl, hg, hc, fun k x hx => ?_⟩
    obtain ⟨h1, h2, h3⟩ := tkLs_get D k x hx
    exact ⟨hcell _ _ h1, hcell _ _ h2, hcell _ _ h3⟩
theorem tkAt.slice {w : World} {v : Value} {n : Nat} {D : List PTk} (h : tkAt w v n D) : ∃ a c, v = .slice a n c := by
  obtain ⟨a, c, rfl, _⟩ := h; exact ⟨a, c, rfl⟩
theorem tokens_at {s : ByteArray} {D : List PTk} {E : Int} {A n : Nat} (hs : s.size ≤ 100000) (hE : tkE (Ls s) = E) (hA : tkA (Ls s) = A) (hD : tkL (Ls s) = D) (hn : D.length = n) (w : World) (T : LxTab w) :
    Calls Tryd.prog 10 #[.string s] w fun e w' => ∃ a c, e = .returned (.tuple #[.slice a n c, .agg #[.int .i64 E, .int .i64 A]]) ∧ tkAt w' (.slice a n c) n D ∧ Below w.heap.size w w' := by
  refine (tokens_is hs hE hA hD hn w T).mono ?_
  rintro e w' ⟨a, c, rfl, ho, hb⟩
  exact ⟨a, c, rfl, .of_owns ho hn, hb⟩

/-- keep's Tokens, where both read alike. -/
theorem keepTok_same {w : World} {u v : Value} {n : Nat} {D : List PTk} (hu : tkAt w u n D) (hv : tkAt w v n D) (hn : n ≤ 100000) :
    Calls Tryd.prog 14 #[u, v] w fun e w' => e = .returned (.bool true) ∧ Below w.heap.size w w' := by
  obtain ⟨a, c, rfl, hD, hc, ha⟩ := hu
  obtain ⟨a2, c2, rfl, _, hc2, ha2⟩ := hv
  rcases Nat.eq_zero_or_pos n with h0 | h0
  · subst h0
    clear ha ha2 hD
    go_enter Tryd.func14, Tryd.ntmps14
    go_wp2_with fail
    go_loop [5] (fun v => v = .int .i64 0) (fun _ => 0)
    case atStart => rfl
    case round =>
      subst hrel
      go_wp2_with fail
      go_ret
      exact ⟨rfl, Below.refl _ _⟩
  · obtain ⟨g, rfl, hg, hcell⟩ := ha.resolve_left (by omega)
    obtain ⟨g2, rfl, hg2, hcell2⟩ := ha2.resolve_left (by omega)
    have HC := Lib.hid hcell
    have HC2 := Lib.hid hcell2
    have HD := Lib.hid hD
    clear ha ha2 hcell hcell2 hD
    go_enter Tryd.func14, Tryd.ntmps14
    go_wp2_with fail
    go_loopw [5] (fun i wr => ∃ k q : Nat, k ≤ n ∧ i = .int .i64 k ∧ wr = w.drewN q) (fun i _ => n - (intOf i).toNat)
    case atStart => exact ⟨0, 0, Nat.zero_le _, rfl, rfl⟩
    case round =>
      obtain ⟨k, q, hk, rfl, rfl⟩ := hrel
      by_cases hlt : k < n
      · have hkD : k < D.length := by rw [HD.out]; exact hlt
        obtain ⟨x, hx⟩ : ∃ x, D[k]? = some x := ⟨_, List.getElem?_eq_getElem hkD⟩
        obtain ⟨y1, y2, y3⟩ := tkLs_get D k x hx
        have e1 := HC.out _ _ y1; have e2 := HC.out _ _ y2; have e3 := HC.out _ _ y3
        have d1 := HC2.out _ _ y1; have d2 := HC2.out _ _ y2; have d3 := HC2.out _ _ y3
        have f1 : ∀ w, (Op.equalIn 10000 39 (.agg #[.int .i64 x.1, .string ⟨x.2.1.toArray⟩, .int .i64 (x.2.2 : Nat)]) (.agg #[.int .i64 x.1, .string ⟨x.2.1.toArray⟩, .int .i64 (x.2.2 : Nat)])).run Tryd.prog w = .ok true w := fun w => by rw [run_tk_eq]; simp
        clear hx y1 y2 y3 hkD
        obtain ⟨x1, x2, x3⟩ := x
        obtain ⟨z, hz⟩ : ∃ z : ByteArray, z = ⟨x2.toArray⟩ := ⟨_, rfl⟩
        simp only [← hz] at e1 e2 e3 d1 d2 d3 f1
        clear hz
        go_wp2_with fail
        go_quiet (fail)
        go_wp2_with fail
        go_roundw
        case rel => exact ⟨k + 1, _, by omega, by go_num, rfl⟩
        case measure => simp [intOf]; omega
      · obtain rfl : k = n := by omega
        go_wp2_with fail
        go_ret
        exact ⟨rfl, below_draws (Below.refl _ _) q⟩
end Go.Proofs.YtlidegofnkmenaaDoor
