/-
  The numbers of layer 3's wakes: one heap, three puts, a set.
  Conditions: none.
-/
import Derived.Test.YtnjpjhlodamanaaObY
import Derived.Test.YtnjpjhlodamanaaLay
import Derived.Test.YtnjpjhlodamanaaHeld
import Derived.Test.YtnjpjhlodamanaaObA
namespace Go.Proofs.Ytnjpjhlodamanaa
set_option linter.unusedVariables false
set_option linter.unusedSimpArgs false
open Go.ChangeShapes Go.WideShapes Go.ChangeAt Go.RowKit
set_option maxRecDepth 100000

def wO1 : Ob := ⟨2, 0, [], [97, 98, 99, 100, 101, 102, 103, 104, 105]⟩
def wO2 : Ob := ⟨1, 1, [0, 3], []⟩
def wO3 : Ob := ⟨1, 0, [2], []⟩
def wA0 : Ar := Ar.laid (List.replicate 40 0)
def wA1 : Ar := wA0.puts 3 (0 * 20 + 0) wO1.lay
def wA2 : Ar := wA1.puts 3 (0 * 20 + 3) wO2.lay
def wA3 : Ar := wA2.set 3 5 6
theorem wk1 : wA0.putOk 3 20 0 0 wO1 = true := by decide +kernel
theorem wk1' : ((0 : Int) + (wO1.words : Int)) = 3 ∧ wPlace (0 * 20 + 0) = 0 := by decide +kernel
theorem wk2 : wA1.putOk 3 20 0 3 wO2 = true := by decide +kernel
theorem wk2' : ((3 : Int) + (wO2.words : Int)) = 6 ∧ wPlace (0 * 20 + 3) = 6 := by decide +kernel
theorem wk3 : wA2.putOk 3 20 0 6 wO3 = false := by decide +kernel
theorem wk4 : wA2.getOb 3 20 0 6 6 = some wO2 := by kernel_rfl
theorem wk5 : wA2.setAt 3 20 0 6 6 1 6 = some 5 := by decide +kernel
theorem wk6 : (wA3.objs 3 20 0 6).isSome = true := by decide +kernel
theorem wk7 : wA3.placesI 3 20 0 6 = [0, 3] := by decide +kernel
theorem wk8 : headWR 1 1 2 0 = 8589934849 ∧ headR 1 1 2 0 = true := by decide +kernel
theorem wk9 : wordsR 3 0 0 0 = 1 := by decide +kernel
end Go.Proofs.Ytnjpjhlodamanaa

/-
  The contracts of the statements' own helpers: Ints, Object, LongObject, OwnObject.
  Conditions: as each states.
-/
namespace Go.Proofs.Ytnjpjhlodamanaa
set_option linter.unusedVariables false
set_option linter.unusedSimpArgs false
open Go.ChangeShapes Go.WideShapes Go.ChangeAt Go.RowKit
set_option maxRecDepth 100000

abbrev intsL (xs : List Int) : List Value := xs.map (Value.int .i64)
theorem keepInts_any {w : World} {u v : Value} {xs ys : List Int} (hu : readsAt w u xs.length (intsL xs)) (hv : readsAt w v ys.length (intsL ys)) (hx : xs.length ≤ 140737488355328) :
    Calls Try.prog 26 #[u, v] w fun e w' => e = .returned (.bool (decide (xs = ys))) ∧ ∃ q, w' = w.drewN q := by
  obtain ⟨a, c, rfl, ha⟩ := hu
  obtain ⟨a2, c2, rfl, ha2⟩ := hv
  by_cases hlen : xs.length = ys.length
  · rcases ha with h0 | ⟨b, o, rfl, hc⟩
    · have hx : xs = [] := List.length_eq_zero_iff.1 h0
      subst hx
      have hy : ys = [] := List.length_eq_zero_iff.1 (by rw [← hlen]; rfl)
      subst hy
      clear hlen h0 ha2
      go_enter Try.func26, Try.ntmps26
      go_wp2
      go_rounds 1
      go_ret
      exact ⟨rfl, 0, rfl⟩
    · rcases ha2 with h0 | ⟨b2, o2, rfl, hc2⟩
      · have hx : xs = [] := List.length_eq_zero_iff.1 (by omega)
        subst hx
        have hy : ys = [] := List.length_eq_zero_iff.1 h0
        subst hy
        clear hlen h0 hc
        go_enter Try.func26, Try.ntmps26
        go_wp2
        go_rounds 1
        go_ret
        exact ⟨rfl, 0, rfl⟩
      · have HC : Hid (∀ j u, (intsL xs)[j]? = some u → w.cell? ⟨b, o + j, none⟩ = some u) := hc
        have HC2 : Hid (∀ j u, (intsL ys)[j]? = some u → w.cell? ⟨b2, o2 + j, none⟩ = some u) := hc2
        have HL := Lib.hid hlen
        rw [← hlen]
        clear hc hc2 hlen
        go_enter Try.func26, Try.ntmps26
        go_wp2
        go_loopw [5] (fun i wr => ∃ k q : Nat, k ≤ xs.length ∧ i = .int .i64 k ∧ wr = w.drewN q ∧ Hid (xs.take k = ys.take k)) (fun i _ => xs.length - (intOf i).toNat)
        case atStart => exact ⟨0, 0, Nat.zero_le _, rfl, rfl, by simp [Hid]⟩
        case round =>
          obtain ⟨k, q, hk, rfl, rfl, HT⟩ := hrel
          by_cases hlt : k < xs.length
          · have hlt2 : k < ys.length := by rw [← HL.out]; exact hlt
            have e1 : w.cell? ⟨b, o + k, none⟩ = some (.int .i64 xs[k]) := HC.out k _ (by simp [hlt])
            have e2 : w.cell? ⟨b2, o2 + k, none⟩ = some (.int .i64 ys[k]) := HC2.out k _ (by simp [hlt2])
            by_cases heq : xs[k] = ys[k]
            · have f1 : (xs[k] != ys[k]) = false := by simpa using heq
              have HE := Lib.hid heq
              clear heq
              go_wp2
              go_quiet (fail)
              go_wp2
              go_roundw
              case rel => exact ⟨k + 1, _, by omega, by go_num, rfl, by show _ = _; rw [List.take_succ_eq_append_getElem hlt, List.take_succ_eq_append_getElem hlt2, HT.out, HE.out]⟩
              case measure => simp [intOf]; omega
            · have f1 : (xs[k] != ys[k]) = true := by simpa using heq
              have hne : decide (xs = ys) = false := decide_eq_false fun e => by subst e; exact heq rfl
              have HN := Lib.hid hne
              clear heq hne
              go_wp2
              go_quiet (fail)
              go_wp2
              go_ret
              exact ⟨by rw [HN.out]; rfl, _, by rw [World.drewN_drewN]⟩
          · have hke : k = xs.length := by omega
            have hdec : decide (xs = ys) = true := decide_eq_true (by
              have := HT.out
              rw [List.take_of_length_le (by omega), List.take_of_length_le (by have := HL.out; omega)] at this
              exact this)
            have HD := Lib.hid hdec
            clear hdec hke
            have hge : xs.length ≤ k := by omega
            clear hlt
            go_wp2
            go_ret
            exact ⟨by rw [HD.out]; rfl, _, rfl⟩
  · have hne : decide (xs = ys) = false := decide_eq_false fun e => by subst e; exact hlen rfl
    have HN := Lib.hid hne
    have hl : ((xs.length : Int) != (ys.length : Int)) = true := by simp; omega
    clear hne hlen ha ha2
    go_enter Try.func26, Try.ntmps26
    go_wp2
    go_ret
    exact ⟨by rw [HN.out]; rfl, 0, rfl⟩

theorem keepInts_h {w : World} {u v : Value} {xs ys : List Int} (hu : readsAt w u xs.length (intsL xs)) (hv : readsAt w v ys.length (intsL ys)) (hx : xs.length ≤ 140737488355328) {b : Bool} (hb : decide (xs = ys) = b) :
    Calls Try.prog 26 #[u, v] w fun e w' => e = .returned (.bool b) ∧ Below w.heap.size w w' :=
  (keepInts_any hu hv hx).mono fun e w' ⟨he, q, hq⟩ => ⟨by rw [he, hb], by rw [hq]; exact below_draws (Below.refl _ _) q⟩

abbrev objv (k t : Int) (a : Option Addr) (nf c : Nat) (s : ByteArray) : Value := .agg #[.int .i64 k, .int .i64 t, .slice a nf c, .string s]

theorem long_any (k t : Int) (a : Option Addr) (nf c : Nat) (s : ByteArray) (w : World) :
    Calls Try.prog 7 #[objv k t a nf c s] w fun e w' => e = .returned (.bool (decide (600 < nf ∨ 800 < s.size))) ∧ Below w.heap.size w w' := by
  by_cases h1 : 600 < nf
  · rw [decide_eq_true (Or.inl h1)]
    go_enter Try.func7, Try.ntmps7
    go_wp2
    go_ret
    exact ⟨rfl, bl_alloc (Below.refl _ _) _⟩
  · have h1' : nf ≤ 600 := by omega
    by_cases h2 : 800 < s.size
    · rw [decide_eq_true (Or.inr h2)]
      clear h1
      go_enter Try.func7, Try.ntmps7
      go_wp2
      go_ret
      exact ⟨ret_bool (by simp; omega), bl_alloc (Below.refl _ _) _⟩
    · have h2' : s.size ≤ 800 := by omega
      rw [decide_eq_false (by omega)]
      clear h1 h2
      go_enter Try.func7, Try.ntmps7
      go_wp2
      go_ret
      exact ⟨ret_bool (by simp; omega), bl_alloc (Below.refl _ _) _⟩
end Go.Proofs.Ytnjpjhlodamanaa

/-
  Layer 3's wakes.
  Conditions: none.
-/
namespace Go.Proofs.Ytnjpjhlodamanaa
set_option linter.unusedVariables false
set_option linter.unusedSimpArgs false
open Go.ChangeShapes Go.WideShapes Go.ChangeAt Go.RowKit
set_option maxRecDepth 100000

theorem keepObject_same (k t : Int) (a b : Option Addr) (xs : List Int) (c d : Nat) (s : ByteArray) (w : World) (hu : readsAt w (.slice a xs.length c) xs.length (wordsL xs)) (hv : readsAt w (.slice b xs.length d) xs.length (wordsL xs)) (hl : xs.length ≤ 100000) :
    Calls Try.prog 16 #[objv k t a xs.length c s, objv k t b xs.length d s] w fun e w' => e = .returned (.bool true) ∧ Below w.heap.size w w' := by
  have HU := Lib.hid hu
  have HV := Lib.hid hv
  clear hu hv
  go_enter Try.func16, Try.ntmps16
  go_wp2_with fail
  have hb : Below w.heap.size w ((w.alloc (.cells #[.int .i64 k, .int .i64 t, .slice a xs.length c, .string s] 35)).alloc (.cells #[.int .i64 k, .int .i64 t, .slice b xs.length d, .string s] 35)) := bl_alloc (bl_alloc (Below.refl _ _) _) _
  have hz : xs.length = 0 ∨ 0 < (wordsL xs).length := by cases xs <;> simp
  refine (keepWords_h (HU.out.below hz hb) (HV.out.below hz hb) (by omega) (decide_eq_true rfl)).mono ?_
  rintro e w1 ⟨rfl, b1⟩
  have HB := Lib.hid (bl_call hb b1)
  clear hb b1 hz
  go_wp2
  go_ret
  exact ⟨rfl, HB.out⟩

/-- Put, told for a heap that is Held, by its outcome. -/
theorem put_yes {w : World} {p : Nat} {F : Nat → Prop} {A : Ar} (hA : Held w p F A) (base half space top k t : Int) (a : Option Addr) (xs : List Int) (c : Nat) (s : ByteArray) (hv : ReadsOff w F a xs) (hxf : ∀ x ∈ xs, fitW x) (hok : A.putOk base half space top ⟨k, t, xs, s.data.toList⟩ = true) :
    Calls Try.prog 9 #[.pointer (some ⟨p, 0, none⟩), heapV base half space top, obj k t a xs.length c s] w fun e w' =>
      e = .returned (.tuple #[heapV base half space (top + ((Ob.words ⟨k, t, xs, s.data.toList⟩ : Nat) : Int)), .int .u64 (wPlace (space * half + top)), .bool true]) ∧ Held w' p F (A.puts base (space * half + top) (Ob.lay ⟨k, t, xs, s.data.toList⟩)) ∧ Step F F w w' :=
  (put_any hA base half space top k t a xs c s hv hxf).mono fun e w' ⟨h1, h2⟩ => by
    rcases h2 with ⟨_, he, hh⟩ | ⟨h3, _⟩
    · exact ⟨he, hh, h1⟩
    · rw [hok] at h3; cases h3
theorem put_no {w : World} {p : Nat} {F : Nat → Prop} {A : Ar} (hA : Held w p F A) (base half space top k t : Int) (a : Option Addr) (xs : List Int) (c : Nat) (s : ByteArray) (hv : ReadsOff w F a xs) (hxf : ∀ x ∈ xs, fitW x) (hok : A.putOk base half space top ⟨k, t, xs, s.data.toList⟩ = false) :
    Calls Try.prog 9 #[.pointer (some ⟨p, 0, none⟩), heapV base half space top, obj k t a xs.length c s] w fun e w' => e = .returned zeroPut ∧ Held w' p F A ∧ Step F F w w' :=
  (put_any hA base half space top k t a xs c s hv hxf).mono fun e w' ⟨h1, h2⟩ => by
    rcases h2 with ⟨h3, _⟩ | ⟨_, he, hh⟩
    · rw [hok] at h3; cases h3
    · exact ⟨he, hh, h1⟩
theorem ReadsOff.new {w : World} {F : Nat → Prop} {g : Nat} {T : TypeId} {xs : List Int} (h : rowAt w g T (wordsL xs)) (hF : ¬ F g) : ReadsOff w F (some ⟨g, 0, none⟩) xs := fun j u hj => by
  refine ⟨g, 0, rfl, hF, ?_⟩
  rw [h.cell, Nat.zero_add]
  exact hj

def forty : List Int := List.replicate 40 0
def fortyV : List Value := forty.map (Value.int .u64)
theorem make_forty (w : World) : (Instr.makeSlice 30 (.int .i64 40) (.int .i64 40)).run Try.prog w = .ok (.slice (some ⟨w.heap.size, 0, none⟩) 40 40) (w.alloc (.cells ⟨fortyV⟩ 39)) := make_words 40 (by omega) w

/-- The world of wakes, step by step: the boxes of the statement's own, the arena. -/
structure Wk (w : World) (p p2 : Nat) (F : Nat → Prop) (A : Ar) (b1 b4 : Nat) (top : Int) (W : World) : Prop where
  held : Held W p F A
  two : rowAt W b1 27 [.pointer (some ⟨p, 0, none⟩), .pointer (some ⟨p2, 0, none⟩)]
  heap : rowAt W b4 33 [.int .i64 3, .int .i64 20, .int .i64 0, .int .i64 top]
  n1 : ¬ F b1
  n4 : ¬ F b4
  n14 : b1 ≠ b4
  lowF : ∀ k, F k → w.heap.size ≤ k
  low : w.heap.size ≤ b1 ∧ w.heap.size ≤ b4
  below : Below w.heap.size w W
theorem Wk.on {w W W' : World} {p p2 : Nat} {F : Nat → Prop} {A : Ar} {b1 b4 : Nat} {top : Int} (h : Wk w p p2 F A b1 b4 top W) (hb : Below W.heap.size W W') : Wk w p p2 F A b1 b4 top W' :=
  ⟨h.held.below hb, h.two.below hb h.two.lt, h.heap.below hb h.heap.lt, h.n1, h.n4, h.n14, h.lowF, h.low, bl_call h.below hb⟩
theorem Wk.step {w W W' : World} {p p2 : Nat} {F : Nat → Prop} {A A' : Ar} {b1 b4 : Nat} {top : Int} (h : Wk w p p2 F A b1 b4 top W) (hs : Step F F W W') (hA : Held W' p F A') : Wk w p p2 F A' b1 b4 top W' :=
  ⟨hA, h.two.upon hs.upon h.n1, h.heap.upon hs.upon h.n4, h.n1, h.n4, h.n14, h.lowF, h.low, h.below.trans (hs.upon.belowB h.below.size h.lowF)⟩
theorem Wk.put {w W : World} {p p2 : Nat} {F : Nat → Prop} {A : Ar} {b1 b4 : Nat} {top : Int} (h : Wk w p p2 F A b1 b4 top W) (top' : Int) :
    Wk w p p2 F A b1 b4 top' ((((W.setCell ⟨b4, 0, none⟩ (.int .i64 3)).setCell ⟨b4, 1, none⟩ (.int .i64 20)).setCell ⟨b4, 2, none⟩ (.int .i64 0)).setCell ⟨b4, 3, none⟩ (.int .i64 top')) := by
  have hup := (((Upon.setCell (S := fun q => q = b4) (w := W) ⟨b4, 0, none⟩ (.int .i64 3) rfl).trans (Upon.setCell (S := fun q => q = b4) ⟨b4, 1, none⟩ (.int .i64 20) rfl) (fun _ _ h => h)).trans (Upon.setCell (S := fun q => q = b4) ⟨b4, 2, none⟩ (.int .i64 0) rfl) (fun _ _ h => h)).trans (Upon.setCell (S := fun q => q = b4) ⟨b4, 3, none⟩ (.int .i64 top') rfl) (fun _ _ h => h)
  refine ⟨h.held.upon hup fun q hq e => h.n4 (e ▸ hq), h.two.upon hup h.n14, (((h.heap.set 0 _).set 1 _).set 2 _).set 3 _, h.n1, h.n4, h.n14, h.lowF, h.low, ?_⟩
  exact h.below.trans (hup.belowB h.below.size fun q e => by have := h.low.2; omega)

theorem putW1 {W : World} {p : Nat} {F : Nat → Prop} (h : Held W p F wA0) :
    Calls Try.prog 9 #[.pointer (some ⟨p, 0, none⟩), heapV 3 20 0 0, obj 2 0 none 0 0 ⟨#[97, 98, 99, 100, 101, 102, 103, 104, 105]⟩] W fun e w' => e = .returned (.tuple #[heapV 3 20 0 3, .int .u64 0, .bool true]) ∧ Held w' p F wA1 ∧ Step F F W w' :=
  (put_yes h 3 20 0 0 2 0 none [] 0 ⟨#[97, 98, 99, 100, 101, 102, 103, 104, 105]⟩ (fun _ _ h => by cases h) (fun _ h => by cases h) wk1).mono fun e w' ⟨he, hh⟩ => ⟨by
    rw [he]
    show Ending.returned (.tuple #[heapV 3 20 0 (0 + (wO1.words : Int)), .int .u64 (wPlace (0 * 20 + 0)), .bool true]) = _
    rw [wk1'.1, wk1'.2], hh⟩
theorem putW2 {W : World} {p : Nat} {F : Nat → Prop} (h : Held W p F wA1) (a : Option Addr) (hv : ReadsOff W F a [0, 3]) :
    Calls Try.prog 9 #[.pointer (some ⟨p, 0, none⟩), heapV 3 20 0 3, obj 1 1 a 2 2 ⟨#[]⟩] W fun e w' => e = .returned (.tuple #[heapV 3 20 0 6, .int .u64 6, .bool true]) ∧ Held w' p F wA2 ∧ Step F F W w' :=
  (put_yes h 3 20 0 3 1 1 a [0, 3] 2 ⟨#[]⟩ hv (by intro x hx; simp at hx; rcases hx with rfl | rfl <;> exact ⟨by decide, by decide⟩) wk2).mono fun e w' ⟨he, hh⟩ => ⟨by
    rw [he]
    show Ending.returned (.tuple #[heapV 3 20 0 (3 + (wO2.words : Int)), .int .u64 (wPlace (0 * 20 + 3)), .bool true]) = _
    rw [wk2'.1, wk2'.2], hh⟩
theorem putW3 {W : World} {p : Nat} {F : Nat → Prop} (h : Held W p F wA2) (a : Option Addr) (hv : ReadsOff W F a [2]) :
    Calls Try.prog 9 #[.pointer (some ⟨p, 0, none⟩), heapV 3 20 0 6, obj 1 0 a 1 1 ⟨#[]⟩] W fun e w' => e = .returned zeroPut ∧ Held w' p F wA2 ∧ Step F F W w' :=
  put_no h 3 20 0 6 1 0 a [2] 1 ⟨#[]⟩ hv (by intro x hx; simp at hx; subst hx; exact ⟨by decide, by decide⟩) wk3
theorem getW {W : World} {p : Nat} {F : Nat → Prop} (h : Held W p F wA2) :
    Calls Try.prog 15 #[.pointer (some ⟨p, 0, none⟩), heapV 3 20 0 6, .int .u64 6] W fun e w' => ∃ a c, e = .returned (.tuple #[obj 1 1 a 2 c ⟨#[]⟩, .bool true]) ∧ ReadsOff w' F a [0, 3] ∧ Below W.heap.size W w' :=
  (get_any' h 3 20 0 6 6 ⟨by decide, by decide⟩).mono fun e w' ⟨hb, hh⟩ => by
    rcases hh with ⟨o, a, c, ho, he, how⟩ | ⟨ho, _⟩
    · rw [wk4] at ho
      cases ho
      exact ⟨a, c, he, owns_readsOff how h.lt, hb⟩
    · rw [wk4] at ho; cases ho
theorem setW {W : World} {p : Nat} {F : Nat → Prop} (h : Held W p F wA2) :
    Calls Try.prog 14 #[.pointer (some ⟨p, 0, none⟩), heapV 3 20 0 6, .int .u64 6, .int .i64 1, .int .u64 6] W fun e w' => e = .returned (.bool true) ∧ Held w' p F wA3 ∧ Step F F W w' :=
  (set_any' h 3 20 0 6 6 1 6 ⟨by decide, by decide⟩ ⟨by decide, by decide⟩ (by decide) (by decide)).mono fun e w' ⟨hs, hh⟩ => by
    rcases hh with ⟨q, hq, he, hA⟩ | ⟨hq, _⟩
    · rw [wk5] at hq
      cases hq
      exact ⟨he, hA, hs⟩
    · rw [wk5] at hq; cases hq
theorem allW {W : World} {p : Nat} {F : Nat → Prop} (h : Held W p F wA3) :
    Calls Try.prog 24 #[.pointer (some ⟨p, 0, none⟩), heapV 3 20 0 6] W fun e w' => ∃ a c, e = .returned (.tuple #[.slice a 2 c, .bool true]) ∧ readsAt w' (.slice a 2 c) 2 (intsL [0, 3]) ∧ Below W.heap.size W w' :=
  (all_any h 3 20 0 6).mono fun e w' ⟨v, he, how, hb⟩ => by
    rw [wk7] at how
    obtain ⟨a, c, rfl⟩ := owns_slice how
    exact ⟨a, c, by rw [he, wk6]; rfl, readsAt.of_owns how, hb⟩
theorem goodW {W : World} {p : Nat} {F : Nat → Prop} (h : Held W p F wA3) :
    Calls Try.prog 17 #[.pointer (some ⟨p, 0, none⟩), heapV 3 20 0 6] W fun e w' => e = .returned (.bool true) ∧ Below W.heap.size W w' :=
  (good_any h 3 20 0 6).mono fun e w' ⟨he, hb⟩ => ⟨by rw [he, wk6], hb⟩
theorem headW' (a : Option Addr) (W : World) :
    Calls Try.prog 25 #[obj 1 1 a 2 2 ⟨#[]⟩] W fun e w' => e = .returned (.tuple #[.int .u64 8589934849, .bool true]) ∧ Below W.heap.size W w' :=
  (ohead_any 1 1 a 2 2 ⟨#[]⟩ W).mono fun e w' ⟨he, hb⟩ => ⟨by
    rw [he]
    show Ending.returned (.tuple #[.int .u64 (headWR 1 1 2 0), .bool (headR 1 1 2 0)]) = _
    rw [wk8.1, wk8.2], hb⟩
theorem wordsW (W : World) :
    Calls Try.prog 13 #[obj 3 0 none 0 0 ⟨#[]⟩] W fun e w' => e = .returned (.int .i64 1) ∧ Below W.heap.size W w' :=
  (owords_any 3 0 none 0 0 ⟨#[]⟩ W).mono fun e w' ⟨he, hb⟩ => ⟨by
    rw [he]
    show Ending.returned (.int .i64 (wordsR 3 0 0 0 : Nat)) = _
    rw [wk9]
    rfl, hb⟩

set_option maxHeartbeats 16000000 in
theorem wakes_any (w : World) :
    Calls Try.prog 5 #[] w fun e w' => e = .returned (.bool true) ∧ Below w.heap.size w w' := by
  have hmk := make_forty
  go_enter Try.func5, Try.ntmps5
  go_wp2_with fail
  refine (lay_any _ _ forty (readsAt.row (rest := []) (rowAt.made w _ _)) (fun x hx => by obtain rfl := List.eq_of_mem_replicate hx; exact ⟨by decide, by decide⟩) (by decide)).mono ?_
  rintro e w1 ⟨p, p2, F, G, rfl, h1, h2, h3, h4, h5, h6⟩
  clear h2 h3 h5
  have hz := h6.size
  simp at hz
  have H1 := Lib.hid h1
  have H4 := Lib.hid h4
  have H6 := Lib.hid h6
  clear h1 h4 h6
  clear hmk
  go_wp2_with fail
  obtain ⟨W0, hW0⟩ : ∃ W0, W0 = (w1.alloc (.cells #[.pointer (some ⟨p, 0, none⟩), .pointer (some ⟨p2, 0, none⟩)] 27)).alloc (.cells #[.int .i64 3, .int .i64 20, .int .i64 0, .int .i64 0] 33) := ⟨_, rfl⟩
  rw [← hW0]
  have K0 : Hid (Wk w p p2 F wA0 w1.heap.size (w1.heap.size + 1) 0 W0) := by
    have hb : Below w1.heap.size w1 W0 := by rw [hW0]; exact bl_alloc (bl_alloc (Below.refl _ _) _) _
    have hlt := H1.out.lt
    refine ⟨H1.out.below hb, ?_, ?_, fun h => ?_, fun h => ?_, by omega, fun k hk => ?_, ⟨by omega, by omega⟩, ?_⟩
    · rw [hW0]; exact (rowAt.made w1 _ _).alloc _
    · rw [hW0]; exact rowAt.made_at _ _ (by simp)
    · have := hlt _ h; omega
    · have := hlt _ h; omega
    · have := H4.out k hk
      simp at this
      omega
    · exact bl_call (bl_call (bl_alloc (Below.refl _ _) _) H6.out) hb
  clear hW0 H1 H4 H6 hz
  refine (putW1 K0.out.held).mono ?_
  rintro e W1 ⟨rfl, g1, s1⟩
  have K1 := Lib.hid (K0.out.step s1 g1)
  clear g1 s1 K0
  have c0 := K1.out.heap.cell 0
  have c1 := K1.out.heap.cell 1
  have c2 := K1.out.heap.cell 2
  have c3 := K1.out.heap.cell 3
  have f0 := K1.out.heap.free 0
  have f1 := K1.out.heap.free 1
  have f2 := K1.out.heap.free 2
  have f3 := K1.out.heap.free 3
  have d0 := K1.out.two.cell 0
  have d1 := K1.out.two.cell 1
  have hl4 := K1.out.heap.lt
  have hl1 := K1.out.two.lt
  simp only [List.getElem?_cons_zero, List.getElem?_cons_succ] at c0 c1 c2 c3 d0 d1
  go_wp2_with fail
  obtain ⟨W2, hW2⟩ : ∃ W2, W2 = ((((W1.setCell ⟨w1.heap.size + 1, 0, none⟩ (.int .i64 3)).setCell ⟨w1.heap.size + 1, 1, none⟩ (.int .i64 20)).setCell ⟨w1.heap.size + 1, 2, none⟩ (.int .i64 0)).setCell ⟨w1.heap.size + 1, 3, none⟩ (.int .i64 3)).alloc (.cells #[.int .u64 0, .int .u64 3] 39) := ⟨_, rfl⟩
  rw [← hW2]
  have K2 : Hid (Wk w p p2 F wA1 w1.heap.size (w1.heap.size + 1) 3 W2) := by rw [hW2]; exact (K1.out.put 3).on (bl_alloc (Below.refl _ _) _)
  have hv2 : ReadsOff W2 F (some ⟨W1.heap.size, 0, none⟩) [0, 3] := by
    refine ReadsOff.new (T := 39) ?_ fun h => by have := K1.out.held.lt _ h; omega
    rw [hW2]
    exact rowAt.made_at _ _ (by simp)
  clear hW2 K1
  refine (putW2 K2.out.held _ hv2).mono ?_
  rintro e W3 ⟨rfl, g3, s3⟩
  have K3 := Lib.hid (K2.out.step s3 g3)
  clear g3 s3 K2 hv2
  clear c0 c1 c2 c3 f0 f1 f2 f3 d0 d1 hl4 hl1
  have c0 := K3.out.heap.cell 0
  have c1 := K3.out.heap.cell 1
  have c2 := K3.out.heap.cell 2
  have c3 := K3.out.heap.cell 3
  have f0 := K3.out.heap.free 0
  have f1 := K3.out.heap.free 1
  have f2 := K3.out.heap.free 2
  have f3 := K3.out.heap.free 3
  have d0 := K3.out.two.cell 0
  have d1 := K3.out.two.cell 1
  have hl4 := K3.out.heap.lt
  have hl1 := K3.out.two.lt
  simp only [List.getElem?_cons_zero, List.getElem?_cons_succ] at c0 c1 c2 c3 d0 d1
  go_wp2_with fail
  obtain ⟨W4, hW4⟩ : ∃ W4, W4 = ((((W3.setCell ⟨w1.heap.size + 1, 0, none⟩ (.int .i64 3)).setCell ⟨w1.heap.size + 1, 1, none⟩ (.int .i64 20)).setCell ⟨w1.heap.size + 1, 2, none⟩ (.int .i64 0)).setCell ⟨w1.heap.size + 1, 3, none⟩ (.int .i64 6)).alloc (.cells #[.int .u64 2] 39) := ⟨_, rfl⟩
  rw [← hW4]
  have K4 : Hid (Wk w p p2 F wA2 w1.heap.size (w1.heap.size + 1) 6 W4) := by rw [hW4]; exact (K3.out.put 6).on (bl_alloc (Below.refl _ _) _)
  have hv4 : ReadsOff W4 F (some ⟨W3.heap.size, 0, none⟩) [2] := by
    refine ReadsOff.new (T := 39) ?_ fun h => by have := K3.out.held.lt _ h; omega
    rw [hW4]
    exact rowAt.made_at _ _ (by simp)
  clear hW4 K3
  refine (putW3 K4.out.held _ hv4).mono ?_
  rintro e W5 ⟨rfl, g5, s5⟩
  have K5 := Lib.hid (K4.out.step s5 g5)
  clear g5 s5 K4 hv4
  clear c0 c1 c2 c3 f0 f1 f2 f3 d0 d1 hl4 hl1
  have c0 := K5.out.heap.cell 0
  have c1 := K5.out.heap.cell 1
  have c2 := K5.out.heap.cell 2
  have c3 := K5.out.heap.cell 3
  have f0 := K5.out.heap.free 0
  have f1 := K5.out.heap.free 1
  have f2 := K5.out.heap.free 2
  have f3 := K5.out.heap.free 3
  have d0 := K5.out.two.cell 0
  have d1 := K5.out.two.cell 1
  have hl4 := K5.out.heap.lt
  have hl1 := K5.out.two.lt
  simp only [List.getElem?_cons_zero, List.getElem?_cons_succ] at c0 c1 c2 c3 d0 d1
  go_wp2_with fail
  refine (getW (K5.out.on (bl_alloc (Below.refl _ _) _)).held).mono ?_
  rintro e W6 ⟨ga, gc, rfl, hg6, b6⟩
  have K6 := Lib.hid (K5.out.on (bl_call (bl_alloc (Below.refl _ _) _) b6))
  have HG6 := Lib.hid hg6
  clear b6 hg6 K5
  clear c0 c1 c2 c3 f0 f1 f2 f3 d0 d1 hl4 hl1
  have c0 := K6.out.heap.cell 0
  have c1 := K6.out.heap.cell 1
  have c2 := K6.out.heap.cell 2
  have c3 := K6.out.heap.cell 3
  have f0 := K6.out.heap.free 0
  have f1 := K6.out.heap.free 1
  have f2 := K6.out.heap.free 2
  have f3 := K6.out.heap.free 3
  have d0 := K6.out.two.cell 0
  have d1 := K6.out.two.cell 1
  have hl4 := K6.out.heap.lt
  have hl1 := K6.out.two.lt
  simp only [List.getElem?_cons_zero, List.getElem?_cons_succ] at c0 c1 c2 c3 d0 d1
  go_wp2_with fail
  refine (setW (K6.out.on (bl_alloc (Below.refl _ _) _)).held).mono ?_
  rintro e W7 ⟨rfl, g7, s7⟩
  have K7 := Lib.hid ((K6.out.on (bl_alloc (Below.refl _ _) _)).step s7 g7)
  have HG7 : Hid (ReadsOff W7 F ga [0, 3]) := (HG6.out.below (bl_alloc (Below.refl _ _) _)).upon s7.upon
  have R7 : Hid (rowAt W7 W6.heap.size 35 [.int .i64 1, .int .i64 1, .slice ga 2 gc, .string ⟨#[]⟩]) := (rowAt.made W6 _ _).upon s7.upon fun h => by have := K6.out.held.lt _ h; omega
  clear g7 s7 K6 HG6
  clear c0 c1 c2 c3 f0 f1 f2 f3 d0 d1 hl4 hl1
  have c0 := K7.out.heap.cell 0
  have c1 := K7.out.heap.cell 1
  have c2 := K7.out.heap.cell 2
  have c3 := K7.out.heap.cell 3
  have f0 := K7.out.heap.free 0
  have f1 := K7.out.heap.free 1
  have f2 := K7.out.heap.free 2
  have f3 := K7.out.heap.free 3
  have d0 := K7.out.two.cell 0
  have d1 := K7.out.two.cell 1
  have hl4 := K7.out.heap.lt
  have hl1 := K7.out.two.lt
  simp only [List.getElem?_cons_zero, List.getElem?_cons_succ] at c0 c1 c2 c3 d0 d1
  go_wp2_with fail
  refine (allW K7.out.held).mono ?_
  rintro e W8 ⟨la, lc, rfl, hl8, b8⟩
  have K8 := Lib.hid (K7.out.on b8)
  have HG8 := Lib.hid (HG7.out.below b8)
  have R8 := Lib.hid (R7.out.below b8 R7.out.lt)
  have HL8 := Lib.hid hl8
  clear hl8 b8 K7 HG7 R7
  clear c0 c1 c2 c3 f0 f1 f2 f3 d0 d1 hl4 hl1
  have c0 := K8.out.heap.cell 0
  have c1 := K8.out.heap.cell 1
  have c2 := K8.out.heap.cell 2
  have c3 := K8.out.heap.cell 3
  have f0 := K8.out.heap.free 0
  have f1 := K8.out.heap.free 1
  have f2 := K8.out.heap.free 2
  have f3 := K8.out.heap.free 3
  have d0 := K8.out.two.cell 0
  have d1 := K8.out.two.cell 1
  have hl4 := K8.out.heap.lt
  have hl1 := K8.out.two.lt
  simp only [List.getElem?_cons_zero, List.getElem?_cons_succ] at c0 c1 c2 c3 d0 d1
  go_wp2_with fail
  refine (headW' _ _).mono ?_
  rintro e W9 ⟨rfl, b9⟩
  have hb9 : Below W8.heap.size W8 W9 := bl_call (bl_alloc (Below.refl _ _) _) b9
  have K9 := Lib.hid (K8.out.on hb9)
  have HG9 := Lib.hid (HG8.out.below hb9)
  have R9 := Lib.hid (R8.out.below hb9 R8.out.lt)
  have HL9 := Lib.hid (HL8.out.below (by simp) hb9)
  clear hb9 b9 K8 HG8 R8 HL8
  clear c0 c1 c2 c3 f0 f1 f2 f3 d0 d1 hl4 hl1
  have c0 := K9.out.heap.cell 0
  have c1 := K9.out.heap.cell 1
  have c2 := K9.out.heap.cell 2
  have c3 := K9.out.heap.cell 3
  have f0 := K9.out.heap.free 0
  have f1 := K9.out.heap.free 1
  have f2 := K9.out.heap.free 2
  have f3 := K9.out.heap.free 3
  have d0 := K9.out.two.cell 0
  have d1 := K9.out.two.cell 1
  have hl4 := K9.out.heap.lt
  have hl1 := K9.out.two.lt
  simp only [List.getElem?_cons_zero, List.getElem?_cons_succ] at c0 c1 c2 c3 d0 d1
  have o0 := R9.out.cell 0
  have o1 := R9.out.cell 1
  have o2 := R9.out.cell 2
  have o3 := R9.out.cell 3
  have hl12 := R9.out.lt
  simp only [List.getElem?_cons_zero, List.getElem?_cons_succ] at o0 o1 o2 o3
  go_wp2_with fail
  have hba : Below W9.heap.size W9 (W9.alloc (.cells #[.int .u64 0, .int .u64 3] 39)) := bl_alloc (Below.refl _ _) _
  refine (keepObject_same 1 1 ga (some ⟨W9.heap.size, 0, none⟩) [0, 3] gc 2 ⟨#[]⟩ _ (HG9.out.below hba).reads (readsAt.row (rest := []) (rowAt.made W9 _ _)) (by decide)).mono ?_
  rintro e W10 ⟨rfl, b10⟩
  have hb10 : Below W9.heap.size W9 W10 := bl_call hba b10
  have K10 := Lib.hid (K9.out.on hb10)
  have HL10 := Lib.hid (HL9.out.below (by simp) hb10)
  clear hb10 b10 hba K9 HG9 R9 HL9 o0 o1 o2 o3 hl12
  clear c0 c1 c2 c3 f0 f1 f2 f3 d0 d1 hl4 hl1
  have c0 := K10.out.heap.cell 0
  have c1 := K10.out.heap.cell 1
  have c2 := K10.out.heap.cell 2
  have c3 := K10.out.heap.cell 3
  have f0 := K10.out.heap.free 0
  have f1 := K10.out.heap.free 1
  have f2 := K10.out.heap.free 2
  have f3 := K10.out.heap.free 3
  have d0 := K10.out.two.cell 0
  have d1 := K10.out.two.cell 1
  have hl4 := K10.out.heap.lt
  have hl1 := K10.out.two.lt
  simp only [List.getElem?_cons_zero, List.getElem?_cons_succ] at c0 c1 c2 c3 d0 d1
  go_wp2_with fail
  have hba : Below W10.heap.size W10 (W10.alloc (.cells #[.int .i64 0, .int .i64 3] 3)) := bl_alloc (Below.refl _ _) _
  refine (keepInts_h (xs := [0, 3]) (ys := [0, 3]) (HL10.out.below (by simp) hba) (readsAt.row (rest := []) (rowAt.made W10 _ _)) (by decide) (b := true) (by decide)).mono ?_
  rintro e W11 ⟨rfl, b11⟩
  have K11 := Lib.hid (K10.out.on (bl_call hba b11))
  clear b11 hba K10 HL10
  clear c0 c1 c2 c3 f0 f1 f2 f3 d0 d1 hl4 hl1
  have c0 := K11.out.heap.cell 0
  have c1 := K11.out.heap.cell 1
  have c2 := K11.out.heap.cell 2
  have c3 := K11.out.heap.cell 3
  have f0 := K11.out.heap.free 0
  have f1 := K11.out.heap.free 1
  have f2 := K11.out.heap.free 2
  have f3 := K11.out.heap.free 3
  have d0 := K11.out.two.cell 0
  have d1 := K11.out.two.cell 1
  have hl4 := K11.out.heap.lt
  have hl1 := K11.out.two.lt
  simp only [List.getElem?_cons_zero, List.getElem?_cons_succ] at c0 c1 c2 c3 d0 d1
  go_wp2_with fail
  refine (goodW K11.out.held).mono ?_
  rintro e W12 ⟨rfl, b12⟩
  have K12 := Lib.hid (K11.out.on b12)
  clear b12 K11
  clear c0 c1 c2 c3 f0 f1 f2 f3 d0 d1 hl4 hl1
  have c0 := K12.out.heap.cell 0
  have c1 := K12.out.heap.cell 1
  have c2 := K12.out.heap.cell 2
  have c3 := K12.out.heap.cell 3
  have f0 := K12.out.heap.free 0
  have f1 := K12.out.heap.free 1
  have f2 := K12.out.heap.free 2
  have f3 := K12.out.heap.free 3
  have d0 := K12.out.two.cell 0
  have d1 := K12.out.two.cell 1
  have hl4 := K12.out.heap.lt
  have hl1 := K12.out.two.lt
  simp only [List.getElem?_cons_zero, List.getElem?_cons_succ] at c0 c1 c2 c3 d0 d1
  go_wp2_with fail
  refine (wordsW _).mono ?_
  rintro e W13 ⟨rfl, b13⟩
  have HB := Lib.hid (K12.out.on b13).below
  clear b13 K12 c0 c1 c2 c3 f0 f1 f2 f3 d0 d1 hl4 hl1
  go_wp2
  go_ret
  exact ⟨rfl, HB.out⟩
end Go.Proofs.Ytnjpjhlodamanaa
