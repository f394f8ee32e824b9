/-
  Law ObjectOwn: its words, what it does where it does nothing.
  Conditions: as each states.
-/
import Derived.Test.YtlaacohcdllaoaaWakO
import Derived.Test.YtlaacohcdllaoaaEmpty
import Derived.Test.YtlaacohcdllaoaaOwnO
import Derived.Test.YtlaacohcdllaoaaReA
namespace Go.Proofs.Ytlaacohcdllaoaa.objectOwn
open Go.ChangeShapes Go.WideShapes Go.ChangeAt Go.RowKit
set_option linter.unusedVariables false
set_option linter.unusedSimpArgs false
set_option maxRecDepth 100000

def sixty : List Int := List.replicate 60 0
def sixtyV : List Value := sixty.map (Value.int .u64)
theorem make_sixty (w : World) : (Instr.makeSlice 22 (.int .i64 60) (.int .i64 60)).run Try.prog w = .ok (.slice (some ⟨w.heap.size, 0, none⟩) 60 60) (w.alloc (.cells ⟨sixtyV⟩ 29)) := make_words 60 (by omega) w

/-- The world of the law: the boxes of its own, the arena. -/
structure Osl (w : World) (p p2 : Nat) (F : Nat → Prop) (A : Ar) (b1 : Nat) (W : World) : Prop where
  held : Held W p F A
  two : rowAt W b1 36 [.pointer (some ⟨p, 0, none⟩), .pointer (some ⟨p2, 0, none⟩)]
  n1 : ¬ F b1
  lowF : ∀ k, F k → w.heap.size ≤ k
  low : w.heap.size ≤ b1
  below : Below w.heap.size w W
theorem Osl.on {w W W' : World} {p p2 : Nat} {F : Nat → Prop} {A : Ar} {b1 : Nat} (h : Osl w p p2 F A b1 W) (hb : Below W.heap.size W W') : Osl w p p2 F A b1 W' :=
  ⟨h.held.below hb, h.two.below hb h.two.lt, h.n1, h.lowF, h.low, bl_call h.below hb⟩
theorem Osl.step {w W W' : World} {p p2 : Nat} {F : Nat → Prop} {A A' : Ar} {b1 : Nat} (h : Osl w p p2 F A b1 W) (hs : Step F F W W') (hA : Held W' p F A') : Osl w p p2 F A' b1 W' :=
  ⟨hA, h.two.upon hs.upon h.n1, h.n1, h.lowF, h.low, h.below.trans (hs.upon.belowB h.below.size h.lowF)⟩
/-- Stores into a block of the law's own. -/
theorem Osl.upon {w W W' : World} {p p2 : Nat} {F : Nat → Prop} {A : Ar} {b1 g : Nat} (h : Osl w p p2 F A b1 W) (hu : Upon (fun q => q = g) W W') (hg : w.heap.size ≤ g) (hF : ¬ F g) (h1 : b1 ≠ g) : Osl w p p2 F A b1 W' :=
  ⟨h.held.upon hu fun q hq e => hF (e ▸ hq), h.two.upon hu h1, h.n1, h.lowF, h.low, h.below.trans (hu.belowB h.below.size fun q e => by omega)⟩

/-- A row of the law's own, in no block of the arena. -/
def Ro (F : Nat → Prop) (b1 : Nat) (B b : Nat) (T : TypeId) (cs : List Value) (W : World) : Prop := rowAt W b T cs ∧ ¬ F b ∧ b ≠ b1 ∧ B ≤ b

/-- The world behind the Put: the heap's box, the row 'in' beside it. -/
structure Stt (w : World) (p p2 : Nat) (F : Nat → Prop) (A : Ar) (b1 bh bi : Nat) (T : Int) (ins : List Int) (W : World) : Prop where
  o : Osl w p p2 F A b1 W
  h : rowAt W bh 24 [.int .i64 3, .int .i64 30, .int .i64 0, .int .i64 T]
  i : rowAt W bi 29 (wordsL ins)
theorem Stt.on {w W W' : World} {p p2 : Nat} {F : Nat → Prop} {A : Ar} {b1 bh bi : Nat} {T : Int} {ins : List Int} (k : Stt w p p2 F A b1 bh bi T ins W) (hb : Below W.heap.size W W') : Stt w p p2 F A b1 bh bi T ins W' :=
  ⟨k.o.on hb, k.h.below hb k.h.lt, k.i.below hb k.i.lt⟩
theorem Stt.upon {w W W' : World} {p p2 : Nat} {F : Nat → Prop} {A : Ar} {b1 bh bi g : Nat} {T : Int} {ins : List Int} (k : Stt w p p2 F A b1 bh bi T ins W) (hu : Upon (fun q => q = g) W W') (hg : w.heap.size ≤ g) (hF : ¬ F g) (h1 : b1 ≠ g) (h2 : bh ≠ g) (h3 : bi ≠ g) : Stt w p p2 F A b1 bh bi T ins W' :=
  ⟨k.o.upon hu hg hF h1, k.h.upon hu h2, k.i.upon hu h3⟩
theorem readsOff_new {w : World} {F : Nat → Prop} {g : Nat} {T : TypeId} {xs : List Int} {rest : List Value} (h : rowAt w g T (wordsL xs ++ rest)) (hF : ¬ F g) : ReadsOff w F (some ⟨g, 0, none⟩) xs := fun j u hj => by
  refine ⟨g, 0, rfl, hF, ?_⟩
  rw [h.cell, Nat.zero_add, List.getElem?_append_left (List.getElem?_eq_some_iff.1 hj).1]
  exact hj
theorem row_set {w : World} {g : Nat} {T : TypeId} {ys : List Int} {rest : List Value} (h : rowAt w g T (wordsL ys ++ rest)) {j : Nat} (hj : j < ys.length) (z : Int) : rowAt (w.setCell ⟨g, j, none⟩ (.int .u64 z)) g T (wordsL (ys.set j z) ++ rest) := by
  have h2 := h.set j (.int .u64 z)
  rw [List.set_append_left _ _ (by simpa using hj), ← List.map_set] at h2
  exact h2
theorem row_get {w : World} {g : Nat} {T : TypeId} {ys : List Int} {rest : List Value} (h : rowAt w g T (wordsL ys ++ rest)) {j : Nat} (hj : j < ys.length) : w.cell? ⟨g, j, none⟩ = some (.int .u64 ys[j]) := by
  rw [h.cell, List.getElem?_append_left (by simpa using hj)]
  simp [hj]

def odd (x : Int) : Int := bits .or .u64 x 1
theorem odd_spec {x : Int} (h : fitW x) : fitW (odd x) ∧ odd x % 2 = 1 := by
  unfold odd
  by_cases he : x % 2 = 0
  · rw [or_one x h.1 h.2 he]
    unfold fitW at *
    omega
  · have h1 : x = (x - 1) + 1 := by omega
    have h2 := or_one (x - 1) (by unfold fitW at h; omega) (by unfold fitW at h; omega) (by omega)
    have h3 : bits .or .u64 x 1 = x := by
      obtain ⟨m, rfl⟩ : ∃ m : Nat, x = ((2 * m + 1 : Nat) : Int) := ⟨(x / 2).toNat, by unfold fitW at h; omega⟩
      have h4 := bits_or_u64_nat (2 * m + 1) 1 (by unfold fitW at h; omega) (by omega)
      have e1 : (2 * m ||| 1 : Nat) = 2 * m + 1 := (Nat.two_pow_add_eq_or_of_lt (i := 1) (b := 1) (by omega) m).symm
      have e2 : ((2 * m + 1) ||| 1 : Nat) = 2 * m + 1 := by rw [← e1, Nat.or_assoc]; simp
      rw [e2] at h4
      simpa using h4
    rw [h3]
    exact ⟨h, by omega⟩

theorem own_facts (ins : List Int) (h1 : 1 ≤ ins.length) (h2 : ins.length ≤ 8) (hodd : ∀ x ∈ ins, x % 2 = 1) (hfit : ∀ x ∈ ins, fitW x) (ok : (Ar.bare 60).Ok) :
    (Ar.bare 60).putOk 3 30 0 0 (ownO ins) = true ∧ ((Ar.bare 60).puts 3 (0 * 30 + 0) (ownO ins).lay).objs 3 30 0 (0 + (ownO ins).words) = some [ownO ins] := by
  have h0 : (Ar.bare 60).objs 3 30 0 0 = some [] := empty_objs 30 0 (by decide) (by decide) (by decide)
  have hp := own_put h0 ins h1 h2 (by decide) hodd
  exact ⟨hp, objs_put ok h0 hp hfit⟩

set_option maxRecDepth 100000 in
set_option maxHeartbeats 4000000 in
theorem walk_out (v0 : Value) (xs : List Int) (w : World) (a : Option Addr) (c : Nat) (hv : v0 = .slice a xs.length c) (hm : xs.length ≤ maxLen) (hn : xs.length = 0 ∨ 8 < xs.length) (v : Int) :
    Calls Try.prog 7 #[v0, .int .u64 v] w fun e w' => e = .returned (.bool true) ∧ Below w.heap.size w w' := by
  subst hv
  unfold maxLen at hm
  have hmk := make_sixty
  generalize xs.length = n at *
  have go : ∀ W W' W'' : World, Below w.heap.size w W → Below W.heap.size W W' → Below W'.heap.size W' W'' → Below w.heap.size w W'' := fun _ _ _ h1 h2 h3 => bl_call (bl_call h1 h2) h3
  have HG := Lib.hid go
  clear go
  rcases hn with rfl | hn
  · go_enter Try.func7, Try.ntmps7
    go_wp2_with fail
    refine (lay_any _ _ sixty (readsAt.row (rest := []) (rowAt.made w _ _)) (fun x hx => by obtain rfl := List.eq_of_mem_replicate hx; exact ⟨by decide, by decide⟩) (by decide)).mono ?_
    rintro e w1 ⟨p, p2, F, G, rfl, h1, h2, h3, h4, h5, h6⟩
    have H6 := Lib.hid h6
    clear h1 h2 h3 h4 h5 h6 hmk
    go_wp2_with fail
    refine (wakes_any _).mono ?_
    rintro e w2 ⟨rfl, b2⟩
    have HB := Lib.hid b2
    clear b2
    go_wp2
    go_ret
    exact ⟨rfl, bl_call (bl_alloc (bl_call (bl_alloc (Below.refl _ _) _) H6.out) _) HB.out⟩
  · have d0 : ((n : Int) == 0) = false := by simp; omega
    have d1 : decide (8 < (n : Int)) = true := decide_eq_true (by omega)
    have d2 : n ≠ 0 := by omega
    go_enter Try.func7, Try.ntmps7
    go_wp2_with fail
    refine (lay_any _ _ sixty (readsAt.row (rest := []) (rowAt.made w _ _)) (fun x hx => by obtain rfl := List.eq_of_mem_replicate hx; exact ⟨by decide, by decide⟩) (by decide)).mono ?_
    rintro e w1 ⟨p, p2, F, G, rfl, h1, h2, h3, h4, h5, h6⟩
    have H6 := Lib.hid h6
    clear h1 h2 h3 h4 h5 h6 hmk
    go_wp2_with fail
    refine (wakes_any _).mono ?_
    rintro e w2 ⟨rfl, b2⟩
    have HB := Lib.hid b2
    clear b2
    go_wp2
    go_ret
    exact ⟨rfl, bl_call (bl_alloc (bl_call (bl_alloc (Below.refl _ _) _) H6.out) _) HB.out⟩

end Go.Proofs.Ytlaacohcdllaoaa.objectOwn
