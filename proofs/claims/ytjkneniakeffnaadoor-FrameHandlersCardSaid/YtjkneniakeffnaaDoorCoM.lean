/-
  Programs in memory: slices that read as a list, in blocks outside of a set; functions, forms, programs; what stays of them.
  Conditions: as each states.
-/
import Derived.Test.YtjkneniakeffnaaDoorCo
import Derived.Test.YtjkneniakeffnaaDoorArgs
namespace Go.Proofs.YtjkneniakeffnaaDoor
open Go.ChangeShapes Go.WideShapes Go.ChangeAt Go.RowKit
set_option linter.unusedVariables false
set_option linter.unusedSimpArgs false
set_option maxRecDepth 100000

/-- v is a slice of n elements whose cells read as cs, in a block that S has not. -/
def rdAt (S : Nat → Prop) (w : World) (v : Value) (n : Nat) (cs : List Value) : Prop :=
  ∃ a c, v = .slice a n c ∧ (n = 0 ∨ ∃ b o, a = some ⟨b, o, none⟩ ∧ ¬ S b ∧ b < w.heap.size ∧ ∀ j u, cs[j]? = some u → w.cell? ⟨b, o + j, none⟩ = some u)

theorem cell_upon {T : Nat → Prop} {w w' : World} (hu : Upon T w w') {b o : Nat} (hb : b < w.heap.size) (hT : ¬ T b) : w'.cell? ⟨b, o, none⟩ = w.cell? ⟨b, o, none⟩ := by
  simp only [World.cell?, hu.block b hb hT]

theorem rdAt.upon {S T : Nat → Prop} {w w' : World} {v : Value} {n : Nat} {cs : List Value} (h : rdAt S w v n cs) (hu : Upon T w w') (hT : ∀ k, k < w.heap.size → T k → S k) : rdAt S w' v n cs := by
  obtain ⟨a, c, rfl, h⟩ := h
  refine ⟨a, c, rfl, ?_⟩
  rcases h with h | ⟨b, o, rfl, hs, hb, hc⟩
  · exact .inl h
  · exact .inr ⟨b, o, rfl, hs, Nat.lt_of_lt_of_le hb hu.size, fun j u hj => by rw [cell_upon hu hb fun t => hs (hT b hb t)]; exact hc j u hj⟩
theorem rdAt.off {S T : Nat → Prop} {w : World} {v : Value} {n : Nat} {cs : List Value} (h : rdAt S w v n cs) (hT : ∀ k, k < w.heap.size → T k → S k) : rdAt T w v n cs := by
  obtain ⟨a, c, rfl, h⟩ := h
  refine ⟨a, c, rfl, ?_⟩
  rcases h with h | ⟨b, o, rfl, hs, hb, hc⟩
  · exact .inl h
  · exact .inr ⟨b, o, rfl, fun t => hs (hT b hb t), hb, hc⟩
theorem upon_of_below {w w' : World} (h : Below w.heap.size w w') : Upon (fun _ => False) w w' := Upon.of_below h
theorem rdAt.below {S : Nat → Prop} {w w' : World} {v : Value} {n : Nat} {cs : List Value} (h : rdAt S w v n cs) (hb : Below w.heap.size w w') : rdAt S w' v n cs := h.upon (upon_of_below hb) fun _ _ t => t.elim
theorem rdAt.of_reads {w : World} {v : Value} {n : Nat} {cs : List Value} (h : readsAt w v n cs) (hl : n = 0 ∨ 0 < cs.length) : rdAt (fun _ => False) w v n cs := by
  obtain ⟨a, c, rfl, h⟩ := h
  refine ⟨a, c, rfl, ?_⟩
  rcases h with h | ⟨b, o, rfl, hc⟩
  · exact .inl h
  · rcases hl with h0 | h0
    · exact .inl h0
    · exact .inr ⟨b, o, rfl, fun t => t, World.block_lt_of_cell? w ⟨b, o + 0, none⟩ (hc 0 cs[0] (List.getElem?_eq_getElem h0)), hc⟩
theorem rdAt.of_owns {S : Nat → Prop} {w : World} {B : Nat} {e : TypeId} {size : Nat} {v : Value} {n : Nat} {xs : List Value} (h : w.ownsRow B e size v n xs) (hS : ∀ g, v.ownBlock = some g → ¬ S g) : rdAt S w v n xs := by
  rcases owns_parts h with ⟨rfl, rfl, rfl⟩ | ⟨g, cap, rest, rfl, hg, hr, hl, hcap, hn, hm⟩
  · exact ⟨_, _, rfl, .inl rfl⟩
  · refine ⟨_, _, rfl, .inr ⟨g, 0, rfl, hS g rfl, hr.lt, fun j u hj => ?_⟩⟩
    rw [hr.cell, Nat.zero_add, List.getElem?_append_left (List.getElem?_eq_some_iff.1 hj).1]
    exact hj
theorem rdAt.slice {S : Nat → Prop} {w : World} {v : Value} {n : Nat} {cs : List Value} (h : rdAt S w v n cs) : ∃ a c, v = .slice a n c := by
  obtain ⟨a, c, rfl, _⟩ := h; exact ⟨a, c, rfl⟩

def insC (p : PIns) : List Value := [.int .i64 p.1, .int .i64 p.2.1, .int .i64 p.2.2]
def insL (l : List PIns) : List Value := l.flatMap insC
theorem insL_get : ∀ (xs : List PIns) (k : Nat) (p : PIns), xs[k]? = some p → (insL xs)[k * 3]? = some (.int .i64 p.1) ∧ (insL xs)[k * 3 + 1]? = some (.int .i64 p.2.1) ∧ (insL xs)[k * 3 + 2]? = some (.int .i64 p.2.2)
  | [], k, p, h => by simp at h
  | x :: xs, 0, p, h => by simp at h; subst h; simp [insL, insC]
  | x :: xs, k + 1, p, h => by
    have ih := insL_get xs k p (by simpa using h)
    rw [show (k + 1) * 3 = k * 3 + 1 + 1 + 1 by omega]
    simpa [insL, insC] using ih
theorem insL_length (l : List PIns) : (insL l).length = l.length * 3 := by
  induction l with
  | nil => rfl
  | cons x l ih => simp [insL, insC] at ih ⊢; omega
theorem insL_snoc (l : List PIns) (p : PIns) : insL (l ++ [p]) = insL l ++ insC p := by simp [insL]

/-- A function, a form at a place of memory. -/
def fnAt (S : Nat → Prop) (w : World) (b o : Nat) (f : PFn) : Prop :=
  w.cell? ⟨b, o, none⟩ = some (.int .i64 f.1) ∧ w.cell? ⟨b, o + 1, none⟩ = some (.int .i64 f.2.1) ∧ ∃ v, w.cell? ⟨b, o + 2, none⟩ = some v ∧ rdAt S w v f.2.2.length (insL f.2.2)
def fmAt (S : Nat → Prop) (w : World) (b o : Nat) (m : PFm) : Prop :=
  w.cell? ⟨b, o, none⟩ = some (.int .i64 m.1) ∧ w.cell? ⟨b, o + 1, none⟩ = some (.int .i64 m.2.1) ∧ w.cell? ⟨b, o + 2, none⟩ = some (.int .i64 m.2.2.1) ∧ ∃ v, w.cell? ⟨b, o + 3, none⟩ = some v ∧ rdAt S w v m.2.2.2.length (m.2.2.2.map (Value.int .i64))
/-- A slice of things of C cells each. -/
def manyAt {α : Type} (E : (Nat → Prop) → World → Nat → Nat → α → Prop) (C : Nat) (S : Nat → Prop) (w : World) (v : Value) (l : List α) : Prop :=
  ∃ a c, v = .slice a l.length c ∧ (l.length = 0 ∨ ∃ b o, a = some ⟨b, o, none⟩ ∧ ¬ S b ∧ b < w.heap.size ∧ ∀ i x, l[i]? = some x → E S w b (o + i * C) x)
abbrev fnsAt := manyAt fnAt 3
abbrev fmsAt := manyAt fmAt 4
abbrev strL (l : List ByteArray) : List Value := l.map Value.string
def prAt (S : Nat → Prop) (w : World) (v1 v2 v3 : Value) (P : PPr) : Prop := fnsAt S w v1 P.1 ∧ rdAt S w v2 P.2.1.length (strL P.2.1) ∧ fmsAt S w v3 P.2.2

theorem fnAt.upon {S T : Nat → Prop} {w w' : World} {b o : Nat} {f : PFn} (h : fnAt S w b o f) (hu : Upon T w w') (hT : ∀ k, k < w.heap.size → T k → S k) (hb : b < w.heap.size) (hS : ¬ T b) : fnAt S w' b o f := by
  obtain ⟨h0, h1, v, h2, h3⟩ := h
  exact ⟨by rw [cell_upon hu hb hS]; exact h0, by rw [cell_upon hu hb hS]; exact h1, v, by rw [cell_upon hu hb hS]; exact h2, h3.upon hu hT⟩
theorem fmAt.upon {S T : Nat → Prop} {w w' : World} {b o : Nat} {f : PFm} (h : fmAt S w b o f) (hu : Upon T w w') (hT : ∀ k, k < w.heap.size → T k → S k) (hb : b < w.heap.size) (hS : ¬ T b) : fmAt S w' b o f := by
  obtain ⟨h0, h1, h2, v, h3, h4⟩ := h
  exact ⟨by rw [cell_upon hu hb hS]; exact h0, by rw [cell_upon hu hb hS]; exact h1, by rw [cell_upon hu hb hS]; exact h2, v, by rw [cell_upon hu hb hS]; exact h3, h4.upon hu hT⟩
theorem manyAt.upon {α : Type} {E : (Nat → Prop) → World → Nat → Nat → α → Prop} {C : Nat} {S T : Nat → Prop} {w w' : World} {v : Value} {l : List α} (h : manyAt E C S w v l)
    (hE : ∀ b o x, b < w.heap.size → ¬ T b → E S w b o x → E S w' b o x) (hu : Upon T w w') (hT : ∀ k, k < w.heap.size → T k → S k) : manyAt E C S w' v l := by
  obtain ⟨a, c, rfl, h⟩ := h
  refine ⟨a, c, rfl, ?_⟩
  rcases h with h | ⟨b, o, rfl, hs, hb, hc⟩
  · exact .inl h
  · exact .inr ⟨b, o, rfl, hs, Nat.lt_of_lt_of_le hb hu.size, fun i x hx => hE _ _ _ hb (fun t => hs (hT b hb t)) (hc i x hx)⟩
theorem fns_upon {S T : Nat → Prop} {w w' : World} {v : Value} {l : List PFn} (h : fnsAt S w v l) (hu : Upon T w w') (hT : ∀ k, k < w.heap.size → T k → S k) : fnsAt S w' v l :=
  manyAt.upon h (fun _ _ _ hb hS h => h.upon hu hT hb hS) hu hT
theorem fms_upon {S T : Nat → Prop} {w w' : World} {v : Value} {l : List PFm} (h : fmsAt S w v l) (hu : Upon T w w') (hT : ∀ k, k < w.heap.size → T k → S k) : fmsAt S w' v l :=
  manyAt.upon h (fun _ _ _ hb hS h => h.upon hu hT hb hS) hu hT
theorem prAt.upon {S T : Nat → Prop} {w w' : World} {v1 v2 v3 : Value} {P : PPr} (h : prAt S w v1 v2 v3 P) (hu : Upon T w w') (hT : ∀ k, k < w.heap.size → T k → S k) : prAt S w' v1 v2 v3 P :=
  ⟨fns_upon h.1 hu hT, h.2.1.upon hu hT, fms_upon h.2.2 hu hT⟩
theorem prAt.below {S : Nat → Prop} {w w' : World} {v1 v2 v3 : Value} {P : PPr} (h : prAt S w v1 v2 v3 P) (hb : Below w.heap.size w w') : prAt S w' v1 v2 v3 P := h.upon (upon_of_below hb) fun _ _ t => t.elim
theorem fns_below {S : Nat → Prop} {w w' : World} {v : Value} {l : List PFn} (h : fnsAt S w v l) (hb : Below w.heap.size w w') : fnsAt S w' v l := fns_upon h (upon_of_below hb) fun _ _ t => t.elim
theorem fms_below {S : Nat → Prop} {w w' : World} {v : Value} {l : List PFm} (h : fmsAt S w v l) (hb : Below w.heap.size w w') : fmsAt S w' v l := fms_upon h (upon_of_below hb) fun _ _ t => t.elim
theorem manyAt.slice {α : Type} {E : (Nat → Prop) → World → Nat → Nat → α → Prop} {C : Nat} {S : Nat → Prop} {w : World} {v : Value} {l : List α} (h : manyAt E C S w v l) : ∃ a c, v = .slice a l.length c := by
  obtain ⟨a, c, rfl, _⟩ := h; exact ⟨a, c, rfl⟩

theorem manyAt.off {α : Type} {E : (Nat → Prop) → World → Nat → Nat → α → Prop} {C : Nat} {S T : Nat → Prop} {w : World} {v : Value} {l : List α} (h : manyAt E C S w v l)
    (hE : ∀ b o x, E S w b o x → E T w b o x) (hT : ∀ k, k < w.heap.size → T k → S k) : manyAt E C T w v l := by
  obtain ⟨a, c, rfl, h⟩ := h
  refine ⟨a, c, rfl, ?_⟩
  rcases h with h | ⟨b, o, rfl, hs, hb, hc⟩
  · exact .inl h
  · exact .inr ⟨b, o, rfl, fun t => hs (hT b hb t), hb, fun i x hx => hE _ _ _ (hc i x hx)⟩
theorem prAt.off {S T : Nat → Prop} {w : World} {v1 v2 v3 : Value} {P : PPr} (h : prAt S w v1 v2 v3 P) (hT : ∀ k, k < w.heap.size → T k → S k) : prAt T w v1 v2 v3 P :=
  ⟨h.1.off (fun _ _ _ ⟨a, b, v, c, d⟩ => ⟨a, b, v, c, d.off hT⟩) hT, h.2.1.off hT, h.2.2.off (fun _ _ _ ⟨a, b, c, v, d, e⟩ => ⟨a, b, c, v, d, e.off hT⟩) hT⟩

/-- The numbers fit, the lists are no longer than memory. -/
def insF (p : PIns) : Prop := (Lit.int .i64 p.1).wf = true ∧ (Lit.int .i64 p.2.1).wf = true ∧ (Lit.int .i64 p.2.2).wf = true
def fnF (f : PFn) : Prop := (Lit.int .i64 f.1).wf = true ∧ (Lit.int .i64 f.2.1).wf = true ∧ (∀ p ∈ f.2.2, insF p) ∧ f.2.2.length ≤ maxLen
def fmF (m : PFm) : Prop := (Lit.int .i64 m.1).wf = true ∧ (Lit.int .i64 m.2.1).wf = true ∧ (Lit.int .i64 m.2.2.1).wf = true ∧ (∀ c ∈ m.2.2.2, (Lit.int .i64 c).wf = true) ∧ m.2.2.2.length ≤ maxLen
structure prF (P : PPr) : Prop where
  fn : ∀ f ∈ P.1, fnF f
  fm : ∀ m ∈ P.2.2, fmF m
  st : ∀ s ∈ P.2.1, s.size ≤ maxLen
  n1 : P.1.length ≤ maxLen
  n2 : P.2.1.length ≤ maxLen
  n3 : P.2.2.length ≤ maxLen
end Go.Proofs.YtjkneniakeffnaaDoor
