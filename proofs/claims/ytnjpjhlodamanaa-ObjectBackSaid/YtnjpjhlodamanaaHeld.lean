/-
  The arena's contracts for a caller: 'Held w p F A' (at p there is an arena that reads as A; its blocks are those of F), 'Step F G w w'' (only blocks of F and new ones turn; the new blocks are of F or new).
  Conditions: as stated.
-/
import Derived.Test.YtnjpjhlodamanaaCut
import Derived.Test.YtnjpjhlodamanaaRegions
import Derived.Test.YtnjpjhlodamanaaKeep
namespace Go.Proofs.Ytnjpjhlodamanaa
open Go.ChangeShapes Go.WideShapes Go.ChangeAt Go.RowKit
set_option linter.unusedVariables false
set_option linter.unusedSimpArgs false
set_option maxRecDepth 100000

structure Step (F G : Nat → Prop) (w w' : World) : Prop where
  upon : Upon F w w'
  foot : ∀ k, G k → F k ∨ w.heap.size ≤ k

theorem Step.refl (F : Nat → Prop) (w : World) : Step F F w w := ⟨Upon.refl F w, fun _ h => .inl h⟩
theorem Step.chain {F G H : Nat → Prop} {a b c : World} (h : Step F G a b) (k : Step G H b c) : Step F H a c :=
  ⟨h.upon.trans k.upon fun i hi hg => (h.foot i hg).resolve_right (by omega), fun i hi => by
    rcases k.foot i hi with hg | hg
    · exact h.foot i hg
    · exact .inr (Nat.le_trans h.upon.size hg)⟩
theorem Step.of_below {F : Nat → Prop} {w w' : World} (h : Below w.heap.size w w') : Step F F w w' := ⟨Upon.of_below h, fun _ h => .inl h⟩
theorem Step.below {G : Nat → Prop} {w w' : World} (h : Step (fun _ => False) G w w') : Below w.heap.size w w' := h.upon.below fun _ h => h.elim

def Held (w : World) (p : Nat) (F : Nat → Prop) (A : Ar) : Prop := ∃ bw bm bv, ArenaIn w p bw bm bv A ∧ ∀ k, foot p bw bm bv k ↔ F k

theorem Held.ok {w : World} {p : Nat} {F : Nat → Prop} {A : Ar} (h : Held w p F A) : A.Ok := by
  obtain ⟨bw, bm, bv, h, _⟩ := h
  exact h.ok
theorem Held.lt {w : World} {p : Nat} {F : Nat → Prop} {A : Ar} (h : Held w p F A) : ∀ k, F k → k < w.heap.size := by
  obtain ⟨bw, bm, bv, h, hF⟩ := h
  exact fun k hk => h.lt k ((hF k).2 hk)
theorem Held.upon {w w' : World} {p : Nat} {F : Nat → Prop} {A : Ar} (h : Held w p F A) {S : Nat → Prop} (hu : Upon S w w') (hS : ∀ k, F k → ¬ S k) : Held w' p F A := by
  obtain ⟨bw, bm, bv, h, hF⟩ := h
  exact ⟨bw, bm, bv, h.upon hu fun k hk => hS k ((hF k).1 hk), hF⟩
theorem Held.below {w w' : World} {p : Nat} {F : Nat → Prop} {A : Ar} (h : Held w p F A) (hb : Below w.heap.size w w') : Held w' p F A :=
  h.upon (S := fun _ => False) (Upon.of_below hb) fun _ _ h => h

theorem new_h {w : World} {n : Nat} (h1 : 1 ≤ n) (h2 : n ≤ 20000) :
    Calls Try.prog 18 #[.int .i64 n] w fun e w' => ∃ p F, e = .returned (.tuple #[.pointer (some ⟨p, 0, none⟩), .bool true]) ∧ Held w' p F (Ar.new n) ∧ Step (fun _ => False) F w w' :=
  (new_yes h1 h2).mono fun e w' ⟨p, bw, bm, bv, he, h, hb, hf⟩ => ⟨p, foot p bw bm bv, he, ⟨bw, bm, bv, h, fun _ => Iff.rfl⟩, Upon.of_below hb, fun k hk => .inr (hf k hk)⟩

section
variable {w : World} {p : Nat} {F : Nat → Prop} {A : Ar}

theorem get_h (h : Held w p F A) (k i : Int) :
    Calls Try.prog 46 #[.pointer (some ⟨p, 0, none⟩), .int .i64 k, .int .i64 i] w fun e w' => e = .returned (.tuple #[.int .u64 (A.getW k i), .bool (A.inB k i)]) ∧ w = w' := by
  obtain ⟨bw, bm, bv, h, hF⟩ := h
  exact get_any h k i
theorem set_h (h : Held w p F A) (k i x : Int) (hx : (Lit.int .u64 x).wf = true) :
    Calls Try.prog 22 #[.pointer (some ⟨p, 0, none⟩), .int .i64 k, .int .i64 i, .int .u64 x] w fun e w' => e = .returned (.bool (A.inB k i)) ∧ Held w' p F (A.set k i x) ∧ Step F F w w' := by
  obtain ⟨bw, bm, bv, h, hF⟩ := h
  exact (set_any h k i x hx).mono fun e w' ⟨he, h', hu⟩ => ⟨he, ⟨bw, bm, bv, h', hF⟩, hu.mono fun j _ hj => (hF j).1 (.inr (.inl hj)), fun _ h => .inl h⟩
theorem cut_h (h : Held w p F A) (n : Int) (hn : n ≤ 9223372036854775807) :
    Calls Try.prog 20 #[.pointer (some ⟨p, 0, none⟩), .int .i64 n] w fun e w' => e = .returned (.tuple #[.int .i64 (A.cutAt n), .bool (A.has n)]) ∧ ∃ G, Held w' p G (A.cut n) ∧ Step F G w w' := by
  obtain ⟨bw, bm, bv, h, hF⟩ := h
  refine (cut_any h n hn).mono fun e w' ⟨he, bv', h', hu, hb⟩ => ⟨he, foot p bw bm bv', ⟨bw, bm, bv', h', fun _ => Iff.rfl⟩, hu.mono fun j _ hj => (hF j).1 hj, ?_⟩
  rintro k (rfl | rfl | rfl | hk)
  · exact .inl ((hF _).1 (.inl rfl))
  · exact .inl ((hF _).1 (.inr (.inl rfl)))
  · exact .inl ((hF _).1 (.inr (.inr (.inl rfl))))
  · rcases hb k hk with h1 | h1
    · exact .inl ((hF _).1 (.inr (.inr (.inr h1))))
    · exact .inr h1
end

def pairI (rs : List (Nat × Nat)) : List (Int × Int) := rs.map fun r => ((r.1 : Int), (r.2 : Int))
theorem pairs_pairI (rs : List (Nat × Nat)) : pairs rs = pairsL (pairI rs) := by
  induction rs with
  | nil => rfl
  | cons r rs ih => simpa [pairs, pairsL, pairI] using ih

/-- Words of two slices, whatever they are: read only. -/
theorem keepWords_h {w : World} {u v : Value} {xs ys : List Int} (hu : readsAt w u xs.length (wordsL xs)) (hv : readsAt w v ys.length (wordsL ys)) (hx : xs.length ≤ 140737488355328) {b : Bool} (hb : decide (xs = ys) = b) :
    Calls Try.prog 38 #[u, v] w fun e w' => e = .returned (.bool b) ∧ Below w.heap.size w w' :=
  (keepWords_any hu hv hx).mono fun e w' ⟨he, q, hq⟩ => ⟨by rw [he, hb], by rw [hq]; exact below_draws (Below.refl _ _) q⟩
end Go.Proofs.Ytnjpjhlodamanaa
