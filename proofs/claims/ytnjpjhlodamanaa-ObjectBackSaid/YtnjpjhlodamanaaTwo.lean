/-
  The arena and the document's arena side by side ('Two'), beside a struct of the law's own; the calls of both.
  Conditions: as each states.
-/
import Derived.Test.YtnjpjhlodamanaaRefDo
import Derived.Test.YtnjpjhlodamanaaRefLow
namespace Go.Proofs.Ytnjpjhlodamanaa
open Go.ChangeShapes Go.WideShapes Go.ChangeAt Go.RowKit
set_option linter.unusedVariables false
set_option linter.unusedSimpArgs false
set_option maxRecDepth 100000

def RHeld (w : World) (p : Nat) (F : Nat → Prop) (A : Ar) : Prop := ∃ bw rv, RefIn w p bw rv A ∧ ∀ k, rfoot p bw rv k ↔ F k

theorem RHeld.upon {w w' : World} {p : Nat} {F : Nat → Prop} {A : Ar} (h : RHeld w p F A) {S : Nat → Prop} (hu : Upon S w w') (hS : ∀ k, F k → ¬ S k) : RHeld w' p F A := by
  obtain ⟨bw, rv, h, hF⟩ := h
  exact ⟨bw, rv, h.upon hu fun k hk => hS k ((hF k).1 hk), hF⟩
theorem RHeld.lt {w : World} {p : Nat} {F : Nat → Prop} {A : Ar} (h : RHeld w p F A) : ∀ k, F k → k < w.heap.size := by
  obtain ⟨bw, rv, h, hF⟩ := h
  exact fun k hk => h.lt k ((hF k).2 hk)

/-- What the document's Cut tells. -/
def Ar.refAt (A : Ar) (n : Int) : Int := if A.has n then A.at n else -1

section
variable {w : World} {p : Nat} {F : Nat → Prop} {A : Ar}
theorem rset_h (h : RHeld w p F A) (k i x : Int) (hx : (Lit.int .u64 x).wf = true) :
    Calls Try.prog 23 #[.pointer (some ⟨p, 0, none⟩), .int .i64 k, .int .i64 i, .int .u64 x] w fun e w' => e = .returned (.bool (A.inB k i)) ∧ RHeld w' p F (A.set k i x) ∧ Step F F w w' := by
  obtain ⟨bw, rv, h, hF⟩ := h
  exact (refSet_any h k i x hx).mono fun e w' ⟨he, h', hu⟩ => ⟨he, ⟨bw, rv, h', hF⟩, hu.mono fun j _ hj => (hF j).1 (.inr (.inl hj)), fun _ h => .inl h⟩
theorem rsize_h (h : RHeld w p F A) (k : Int) :
    Calls Try.prog 42 #[.pointer (some ⟨p, 0, none⟩), .int .i64 k] w fun e w' => e = .returned (.int .i64 (A.size k)) ∧ w = w' := by
  obtain ⟨bw, rv, h, hF⟩ := h
  exact refSize_any h k
theorem rcut_h (h : RHeld w p F A) (n : Int) :
    Calls Try.prog 21 #[.pointer (some ⟨p, 0, none⟩), .int .i64 n] w fun e w' => e = .returned (.int .i64 (A.refAt n)) ∧ ∃ G, RHeld w' p G (A.cut n) ∧ Step F G w w' := by
  obtain ⟨bw, rv, h, hF⟩ := h
  obtain ⟨a, c, rfl, _⟩ := h.cells
  by_cases hh : A.has n = true
  · have hh' := hh
    simp only [Ar.has, Bool.and_eq_true, decide_eq_true_eq] at hh'
    obtain ⟨m, rfl⟩ := Int.eq_ofNat_of_zero_le (a := n) (by omega)
    refine (refCut_yes h (by omega) hh'.2).mono ?_
    rintro e w' ⟨rfl, v', h', hu, hb⟩
    refine ⟨by rw [Ar.refAt, if_pos hh], _, ⟨bw, v', h', fun _ => Iff.rfl⟩, hu.mono fun j _ hj => (hF j).1 (by rcases hj with rfl | rfl; exact .inl rfl; exact .inr (.inl rfl)), ?_⟩
    rintro j (rfl | rfl | hj)
    · exact .inl ((hF _).1 (.inl rfl))
    · exact .inl ((hF _).1 (.inr (.inl rfl)))
    · exact .inr (hb j hj)
  · have ec : A.cut n = A := by rw [Ar.cut, if_neg hh]
    have er : A.refAt n = -1 := by rw [Ar.refAt, if_neg hh]
    rw [ec, er]
    simp only [Ar.has, Bool.and_eq_true, decide_eq_true_eq, Classical.not_and_iff_not_or_not] at hh
    have key : Calls Try.prog 21 #[.pointer (some ⟨p, 0, none⟩), .int .i64 n] w fun e w' => e = .returned (.int .i64 (-1)) ∧ Below w.heap.size w w' := by
      by_cases hn : n < 1
      · exact refCut_low h hn
      · exact refCut_full h (by omega) (by omega)
    refine key.mono ?_
    rintro e w' ⟨rfl, hb⟩
    exact ⟨rfl, F, ⟨bw, _, RefIn.upon h (Upon.of_below (S := fun _ => False) hb) fun _ _ h => h, hF⟩, Step.of_below hb⟩
theorem rnew_h {n : Nat} (h1 : 1 ≤ n) (h2 : n ≤ 20000) :
    Calls Try.prog 19 #[.int .i64 n] w fun e w' => ∃ p F, e = .returned (.pointer (some ⟨p, 0, none⟩)) ∧ RHeld w' p F (Ar.new n) ∧ Step (fun _ => False) F w w' :=
  (refNew_yes h1 h2).mono fun e w' ⟨p, bw, rv, he, h, hb, hf⟩ => ⟨p, rfoot p bw rv, he, ⟨bw, rv, h, fun _ => Iff.rfl⟩, Upon.of_below hb, fun k hk => .inr (hf k hk)⟩
end

/-- Both arenas, apart from one another and from the struct at bx; all of it behind B. -/
structure TwoF (B p p2 bx : Nat) (T : TypeId) (cs : List Value) (A A' : Ar) (w : World) (F G : Nat → Prop) : Prop where
  one : Held w p F A
  two : RHeld w p2 G A'
  row : rowAt w bx T cs
  apart : ∀ k, F k → ¬ G k
  nf : ¬ F bx
  ng : ¬ G bx
  lowF : ∀ k, F k → B ≤ k
  lowG : ∀ k, G k → B ≤ k
def Two (B p p2 bx : Nat) (T : TypeId) (cs : List Value) (A A' : Ar) (w : World) : Prop := ∃ F G, TwoF B p p2 bx T cs A A' w F G

section
variable {B p p2 bx : Nat} {T : TypeId} {cs : List Value} {A A' : Ar} {w : World}
theorem Two.cell (h : Two B p p2 bx T cs A A' w) (o : Nat) : w.cell? ⟨bx, o, none⟩ = cs[o]? := by
  obtain ⟨F, G, h⟩ := h
  exact h.row.cell o
theorem Two.lt (h : Two B p p2 bx T cs A A' w) : bx < w.heap.size := by
  obtain ⟨F, G, h⟩ := h
  exact h.row.lt
theorem Two.ok (h : Two B p p2 bx T cs A A' w) : A.Ok := by
  obtain ⟨F, G, h⟩ := h
  exact h.one.ok
theorem Two.below {w' : World} (h : Two B p p2 bx T cs A A' w) (hb : Below w.heap.size w w') : Two B p p2 bx T cs A A' w' := by
  obtain ⟨F, G, h⟩ := h
  have hu : Upon (fun _ => False) w w' := Upon.of_below hb
  exact ⟨F, G, h.one.below hb, h.two.upon hu fun _ _ h => h, h.row.upon hu fun h => h, h.apart, h.nf, h.ng, h.lowF, h.lowG⟩
theorem Two.first {w' : World} {F G F' : Nat → Prop} {A1 : Ar} (h : TwoF B p p2 bx T cs A A' w F G) (h1 : Held w' p F' A1) (s : Step F F' w w') (hB : B ≤ w.heap.size) : Two B p p2 bx T cs A1 A' w' ∧ Below B w w' := by
  have hlt := h.two.lt
  have hbl := h.row.lt
  refine ⟨⟨F', G, h1, h.two.upon s.upon fun k hk hf => h.apart k hf hk, h.row.upon s.upon h.nf, fun k hk hg => ?_, fun hk => ?_, h.ng, fun k hk => ?_, h.lowG⟩, s.upon.belowB hB h.lowF⟩
  · rcases s.foot k hk with hf | hf
    · exact h.apart k hf hg
    · have := hlt k hg; omega
  · rcases s.foot bx hk with hf | hf
    · exact h.nf hf
    · omega
  · rcases s.foot k hk with hf | hf
    · exact h.lowF k hf
    · omega
theorem Two.second {w' : World} {F G G' : Nat → Prop} {A1 : Ar} (h : TwoF B p p2 bx T cs A A' w F G) (h1 : RHeld w' p2 G' A1) (s : Step G G' w w') (hB : B ≤ w.heap.size) : Two B p p2 bx T cs A A1 w' ∧ Below B w w' := by
  have hlt := h.one.lt
  have hbl := h.row.lt
  refine ⟨⟨F, G', h.one.upon s.upon fun k hk hg => h.apart k hk hg, h1, h.row.upon s.upon h.ng, fun k hk hg => ?_, h.nf, fun hk => ?_, h.lowF, fun k hk => ?_⟩, s.upon.belowB hB h.lowG⟩
  · rcases s.foot k hg with hf | hf
    · exact h.apart k hk hf
    · have := hlt k hk; omega
  · rcases s.foot bx hk with hf | hf
    · exact h.ng hf
    · omega
  · rcases s.foot k hk with hf | hf
    · exact h.lowG k hf
    · omega

theorem two_cut (h : Two B p p2 bx T cs A A' w) (hB : B ≤ w.heap.size) (n : Int) (hn : n ≤ 9223372036854775807) :
    Calls Try.prog 20 #[.pointer (some ⟨p, 0, none⟩), .int .i64 n] w fun e w' => e = .returned (.tuple #[.int .i64 (A.cutAt n), .bool (A.has n)]) ∧ Two B p p2 bx T cs (A.cut n) A' w' ∧ Below B w w' := by
  obtain ⟨F, G, h⟩ := h
  exact (cut_h h.one n hn).mono fun e w' ⟨he, F', h1, s⟩ => ⟨he, Two.first h h1 s hB⟩
theorem two_set (h : Two B p p2 bx T cs A A' w) (hB : B ≤ w.heap.size) (k i x : Int) (hx : (Lit.int .u64 x).wf = true) :
    Calls Try.prog 22 #[.pointer (some ⟨p, 0, none⟩), .int .i64 k, .int .i64 i, .int .u64 x] w fun e w' => e = .returned (.bool (A.inB k i)) ∧ Two B p p2 bx T cs (A.set k i x) A' w' ∧ Below B w w' := by
  obtain ⟨F, G, h⟩ := h
  exact (set_h h.one k i x hx).mono fun e w' ⟨he, h1, s⟩ => ⟨he, Two.first h h1 s hB⟩
theorem two_get (h : Two B p p2 bx T cs A A' w) (k i : Int) :
    Calls Try.prog 46 #[.pointer (some ⟨p, 0, none⟩), .int .i64 k, .int .i64 i] w fun e w' => e = .returned (.tuple #[.int .u64 (A.getW k i), .bool (A.inB k i)]) ∧ w = w' := by
  obtain ⟨F, G, h⟩ := h
  exact get_h h.one k i
theorem two_rcut (h : Two B p p2 bx T cs A A' w) (hB : B ≤ w.heap.size) (n : Int) :
    Calls Try.prog 21 #[.pointer (some ⟨p2, 0, none⟩), .int .i64 n] w fun e w' => e = .returned (.int .i64 (A'.refAt n)) ∧ Two B p p2 bx T cs A (A'.cut n) w' ∧ Below B w w' := by
  obtain ⟨F, G, h⟩ := h
  exact (rcut_h h.two n).mono fun e w' ⟨he, G', h1, s⟩ => ⟨he, Two.second h h1 s hB⟩
theorem two_rset (h : Two B p p2 bx T cs A A' w) (hB : B ≤ w.heap.size) (k i x : Int) (hx : (Lit.int .u64 x).wf = true) :
    Calls Try.prog 23 #[.pointer (some ⟨p2, 0, none⟩), .int .i64 k, .int .i64 i, .int .u64 x] w fun e w' => e = .returned (.bool (A'.inB k i)) ∧ Two B p p2 bx T cs A (A'.set k i x) w' ∧ Below B w w' := by
  obtain ⟨F, G, h⟩ := h
  exact (rset_h h.two k i x hx).mono fun e w' ⟨he, h1, s⟩ => ⟨he, Two.second h h1 s hB⟩
theorem two_rsize (h : Two B p p2 bx T cs A A' w) (k : Int) :
    Calls Try.prog 42 #[.pointer (some ⟨p2, 0, none⟩), .int .i64 k] w fun e w' => e = .returned (.int .i64 (A'.size k)) ∧ w = w' := by
  obtain ⟨F, G, h⟩ := h
  exact rsize_h h.two k
/-- The row of regions of the document's arena, as it stands. -/
theorem Two.regs (h : Two B p p2 bx T cs A A' w) : p2 < w.heap.size ∧ ∃ a c, w.cell? ⟨p2, 1, none⟩ = some (.slice a A'.rs.length c) ∧ ∀ w', Below w.heap.size w w' → readsAt w' (.slice a A'.rs.length c) A'.rs.length (pairs A'.rs) ∧ w'.cell? ⟨p2, 1, none⟩ = some (.slice a A'.rs.length c) := by
  obtain ⟨F, G, h⟩ := h
  obtain ⟨bw, rv, h2, _⟩ := h.two
  obtain ⟨a, c, rfl, _⟩ := h2.cells
  refine ⟨h2.root.lt, a, c, (h2.root.cell 1).trans rfl, fun w' hb => ?_⟩
  have h3 := RefIn.upon h2 (Upon.of_below (S := fun _ => False) hb) fun _ _ h => h
  exact ⟨readsAt.of_owns h3.regs, (h3.root.cell 1).trans rfl⟩
end
end Go.Proofs.Ytnjpjhlodamanaa
