/-
  Lists of things with slices of their own, in rows of the call's own.
  Conditions: as each states.
-/
import Derived.Test.YtjkneniakeffnaaDoorCoBs
namespace Go.Proofs.YtjkneniakeffnaaDoor
open Go.ChangeShapes Go.WideShapes Go.ChangeAt Go.RowKit
set_option linter.unusedVariables false
set_option linter.unusedSimpArgs false
set_option maxRecDepth 100000

theorem own_ge {w : World} {B : Nat} {e : TypeId} {size : Nat} {v : Value} {n : Nat} {xs : List Value} (h : w.ownsRow B e size v n xs) : ∀ g, v.ownBlock = some g → B ≤ g ∧ g < w.heap.size := by
  intro g hg
  rcases owns_parts h with ⟨rfl, _, _⟩ | ⟨g', cap, rest, rfl, h1, hr, _⟩
  · cases hg
  · cases hg; exact ⟨h1, hr.lt⟩
/-- The inner slices of a list's things read as they should, in no block of S. -/
def Inner {α : Type} (S : Nat → Prop) (w : World) (len : α → Nat) (cs : α → List Value) (ys : List (α × Value)) : Prop := ∀ y ∈ ys, rdAt S w y.2 (len y.1) (cs y.1)

theorem inner_path {S : Nat → Prop} {w1 W w2 : World} {Z : Nat → Prop} {v v2 sv : Value} {n : Nat} {cs : List Value} (h : rdAt (fun g => Z g ∨ v.ownBlock = some g) w1 sv n cs) (hbW : Below w1.heap.size w1 W) (hg : W.grownBy w2 v.ownBlock)
    (hb2 : v2.ownBlock = v.ownBlock ∨ v2.ownBlock = some W.heap.size) : rdAt (fun g => Z g ∨ v2.ownBlock = some g) w2 sv n cs := by
  have h1 := (h.below hbW).off (T := fun g => Z g ∨ v.ownBlock = some g ∨ v2.ownBlock = some g) fun k hk e => by
    rcases e with e | e | e
    · exact .inl e
    · exact .inr e
    · rcases hb2 with hb | hb
      · exact .inr (hb ▸ e)
      · rw [hb] at e; cases e; omega
  have hu : Upon (fun g => v.ownBlock = some g) W w2 := ⟨hg.os, hg.tape, hg.output, hg.size, fun k hk h => hg.block k hk fun e => h e.symm⟩
  exact (h1.upon hu fun k _ e => .inr (.inl e)).off fun k _ e => e.imp_right .inr


def fnC (y : PFn × Value) : List Value := [.int .i64 y.1.1, .int .i64 y.1.2.1, y.2]
def fmC (y : PFm × Value) : List Value := [.int .i64 y.1.1, .int .i64 y.1.2.1, .int .i64 y.1.2.2.1, y.2]
theorem flat_get {α : Type} (f : α → List Value) (C : Nat) (hC : ∀ x, (f x).length = C) : ∀ (l : List α) (k : Nat) (x : α) (j : Nat), l[k]? = some x → j < C → (l.flatMap f)[k * C + j]? = (f x)[j]?
  | [], k, x, j, h, _ => by simp at h
  | y :: l, 0, x, j, h, hj => by
    simp at h; subst h
    rw [List.flatMap_cons, Nat.zero_mul, Nat.zero_add, List.getElem?_append_left (by rw [hC]; exact hj)]
  | y :: l, k + 1, x, j, h, hj => by
    have ih := flat_get f C hC l k x j (by simpa using h) hj
    rw [List.flatMap_cons, List.getElem?_append_right (by rw [hC, Nat.add_mul]; omega), hC, ← ih]
    congr 1
    rw [Nat.add_mul]; omega
theorem flat_len {α : Type} (f : α → List Value) (C : Nat) (hC : ∀ x, (f x).length = C) : ∀ (l : List α), (l.flatMap f).length = l.length * C
  | [] => by simp
  | y :: l => by rw [List.flatMap_cons, List.length_append, hC, flat_len f C hC l, List.length_cons, Nat.add_mul]; omega

theorem many_of {α : Type} {E : (Nat → Prop) → World → Nat → Nat → α → Prop} {C : Nat} (f : α × Value → List Value) (hC : ∀ x, (f x).length = C) {S : Nat → Prop} {w : World} {B : Nat} {T : TypeId} {v : Value} {ys : List (α × Value)} (ho : w.ownsRow B T C v ys.length (ys.flatMap f)) (hS : ∀ g, v.ownBlock = some g → ¬ S g)
    (hE : ∀ y ∈ ys, ∀ b o, (∀ j u, (f y)[j]? = some u → w.cell? ⟨b, o + j, none⟩ = some u) → E S w b o y.1) : manyAt E C S w v (ys.map (·.1)) := by
  rcases owns_parts ho with ⟨rfl, h1, h2⟩ | ⟨g, cap, rest, rfl, hg, hr, hl, hcap, hn, hm⟩
  · obtain rfl := List.length_eq_zero_iff.1 h1
    exact ⟨none, 0, rfl, .inl rfl⟩
  · refine ⟨some ⟨g, 0, none⟩, cap, by rw [List.length_map], ?_⟩
    refine .inr ⟨g, 0, rfl, hS g rfl, hr.lt, fun i x hx => ?_⟩
    rw [List.getElem?_map] at hx
    obtain ⟨y, hy, rfl⟩ := Option.map_eq_some_iff.1 hx
    refine hE y (List.mem_of_getElem? hy) _ _ fun j u hj => ?_
    have hjC : j < C := by have := (List.getElem?_eq_some_iff.1 hj).1; rw [hC] at this; exact this
    have hq := flat_get f C hC ys i y j hy hjC
    rw [hr.cell, Nat.zero_add, List.getElem?_append_left, hq, hj]
    rw [hj] at hq
    exact (List.getElem?_eq_some_iff.1 hq).1
theorem fns_of {w : World} {B : Nat} {T : TypeId} {v : Value} {ys : List (PFn × Value)} (ho : w.ownsRow B T 3 v ys.length (ys.flatMap fnC)) (hi : Inner (fun g => g < B ∨ v.ownBlock = some g) w (fun f : PFn => f.2.2.length) (fun f => insL f.2.2) ys) :
    fnsAt (fun g => g < B) w v (ys.map (·.1)) :=
  many_of fnC (fun _ => rfl) ho (fun g hg e => by have := own_ge ho g hg; omega) fun y hy b o hc =>
    ⟨hc 0 _ rfl, hc 1 _ rfl, y.2, hc 2 _ rfl, (hi y hy).off fun k _ e => .inl e⟩
theorem fms_of {w : World} {B : Nat} {T : TypeId} {v : Value} {ys : List (PFm × Value)} (ho : w.ownsRow B T 4 v ys.length (ys.flatMap fmC)) (hi : Inner (fun g => g < B ∨ v.ownBlock = some g) w (fun m : PFm => m.2.2.2.length) (fun m => intL m.2.2.2) ys) :
    fmsAt (fun g => g < B) w v (ys.map (·.1)) :=
  many_of fmC (fun _ => rfl) ho (fun g hg e => by have := own_ge ho g hg; omega) fun y hy b o hc =>
    ⟨hc 0 _ rfl, hc 1 _ rfl, hc 2 _ rfl, y.2, hc 3 _ rfl, (hi y hy).off fun k _ e => .inl e⟩


theorem info_fn : (Tryd.prog.info? 58).map (fun i => (i.zero, i.size, i.bytes)) = some (some (.agg #[.int .i64 0, .int .i64 0, .slice none 0 0]), 3, 40) := by kernel_rfl

theorem info_fm : (Tryd.prog.info? 75).map (fun i => (i.zero, i.size, i.bytes)) = some (some (.agg #[.int .i64 0, .int .i64 0, .int .i64 0, .slice none 0 0]), 4, 48) := by kernel_rfl
end Go.Proofs.YtjkneniakeffnaaDoor
