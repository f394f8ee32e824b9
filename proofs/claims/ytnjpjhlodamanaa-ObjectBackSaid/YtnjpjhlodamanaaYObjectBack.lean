/-
  For every number, objects and places the law ObjectBack returns true, and its arguments read as they did. Conditions: none.
-/
import Derived.Test.YtnjpjhlodamanaaYArgsA
import Derived.Test.YtnjpjhlodamanaaYWakO
import Derived.Test.YtnjpjhlodamanaaYOwnP
import Derived.Test.YtnjpjhlodamanaaLay
import Derived.Deep.RegionHeld3
import Derived.Deep.DeepCutAuto
import Derived.Deep.CutBlock
import Derived.StillTailTactics
import Derived.Lib.SmallJoins
namespace Go.Proofs.Ytnjpjhlodamanaa.objectBack
set_option linter.unusedVariables false
set_option linter.unusedSimpArgs false
open Go.ChangeShapes Go.WideShapes Go.ChangeAt Go.RowKit
set_option maxRecDepth 100000

theorem own : ownKnob Try.prog.godebug = none := by kernel_rfl
theorem laidOut : laidOutB Try.prog = true := by kernel_rfl

open objectOwn (Osl odd odd_spec row_set)
/-- What Put tells of an object whose fields may be, both ways. -/
def PutR (A : Ar) (half top : Int) (obs : List Ob) (q : ObE) (A' : Ar) (g0 g1 g2 g3 w0 : Int) (b : Bool) : Prop :=
  (b = true ∧ headR q.k q.t q.fs.length q.s.size = true ∧ (wordsR q.k q.t q.fs.length q.s.size : Int) ≤ half - top ∧ 3 = g0 ∧ half = g1 ∧ 0 = g2 ∧ top + (wordsR q.k q.t q.fs.length q.s.size : Int) = g3 ∧ wPlace top = w0 ∧ A'.objs 3 half 0 g3 = some (obs ++ [obO q])) ∨
  (b = false ∧ (headR q.k q.t q.fs.length q.s.size && decide ((wordsR q.k q.t q.fs.length q.s.size : Int) ≤ half - top)) = false ∧ A = A')
def PutPost (w V : World) (p p2 b1 hb : Nat) (F : Nat → Prop) (A : Ar) (half tp : Int) (obs : List Ob) (q : ObE) (vw vh : Value) (ws : List Int) (qs : List ObE) (W : World) (e : Ending) (w' : World) : Prop :=
  ∃ A' g0 g1 g2 g3 w0 b, e = .returned (.tuple #[heapV g0 g1 g2 g3, .int .u64 w0, .bool b]) ∧ OkO w V p p2 b1 hb F A' half tp vw vh ws qs w' ∧ Step F F W w' ∧ PutR A half tp obs q A' g0 g1 g2 g3 w0 b
theorem words_ob {q : ObE} (h : headR q.k q.t q.fs.length q.s.size = true) : wordsR q.k q.t q.fs.length q.s.size = (obO q).words := by
  unfold wordsR
  rw [if_pos h]
  unfold Ob.words Ob.long Ob.size obO
  simp only [Lib.size_eq]
theorem may_ob (q : ObE) : (obO q).may = headR q.k q.t q.fs.length q.s.size := by
  rw [Ob.may_eq, Lib.size_eq]
  rfl
theorem put_both {w V : World} {p p2 b1 hb : Nat} {F : Nat → Prop} {A : Ar} {half tp : Int} {obs : List Ob} {vw vh : Value} {ws : List Int} {qs : List ObE} {W : World} (h : OkO w V p p2 b1 hb F A half tp vw vh ws qs W) (ho : A.objs 3 half 0 tp = some obs) (q : ObE) (hq : ownF V vw q W)
    (hxf : ∀ x ∈ q.fs, fitW x) (hfo : q.fs.all (fieldOk (0 * half) obs) = true) :
    Calls Try.prog 9 #[.pointer (some ⟨p, 0, none⟩), .agg #[.int .i64 3, .int .i64 half, .int .i64 0, .int .i64 tp], .agg #[.int .i64 q.k, .int .i64 q.t, .slice q.a q.fs.length q.c, .string q.s]] W (PutPost w V p p2 b1 hb F A half tp obs q vw vh ws qs W) := by
  refine (put_any h.os.held 3 half 0 tp q.k q.t q.a q.fs q.c q.s (owns_readsOff hq.1 h.fv) hxf).mono ?_
  intro e w' ⟨hs, hp⟩
  have ok := h.os.held.ok
  have hpo : A.putOk 3 half 0 tp (obO q) = (headR q.k q.t q.fs.length q.s.size && decide (((obO q).words : Int) ≤ half - tp)) := by
    unfold Ar.putOk
    rw [ho, may_ob]
    show (headR q.k q.t q.fs.length q.s.size && (q.fs.all (fieldOk (0 * half) obs) && decide (((obO q).words : Int) ≤ half - tp))) = _
    rw [hfo, Bool.true_and]
  have hob : (⟨q.k, q.t, q.fs, q.s.data.toList⟩ : Ob) = obO q := rfl
  rw [hob] at hp
  rcases hp with ⟨h1, rfl, hh⟩ | ⟨h1, rfl, hh⟩
  · have h2 := h1
    rw [hpo] at h2
    simp only [Bool.and_eq_true, decide_eq_true_eq] at h2
    have hw := words_ob h2.1
    refine ⟨_, _, _, _, _, _, true, rfl, h.step hs hh, hs, .inl ⟨rfl, h2.1, by rw [hw]; exact h2.2, rfl, rfl, rfl, by rw [hw], by rw [Int.zero_mul, Int.zero_add], objs_put ok ho h1 hxf⟩⟩
  · refine ⟨A, _, _, _, _, _, false, rfl, h.step hs hh, hs, .inr ⟨rfl, ?_, rfl⟩⟩
    rw [hpo] at h1
    cases hd : headR q.k q.t q.fs.length q.s.size with
    | false => rfl
    | true =>
      rw [hd, Bool.true_and] at h1
      rw [Bool.true_and, words_ob hd]
      exact h1
theorem objs_numsO {A : Ar} (ok : A.Ok) {half top : Int} {obs : List Ob} (h : A.objs 3 half 0 top = some obs) : 8 ≤ half ∧ half ≤ 2000 ∧ 0 ≤ top ∧ top ≤ half ∧ top = ((flat obs).length : Int) := by
  obtain ⟨h1, h2, h3, h4⟩ := objs_ok ok h
  have hn := lies_nums h4
  have hl := semi_length ok h4
  rw [h3] at hl
  omega
theorem long_is (q : ObE) (w : World) {b : Bool} (hb : decide (600 < q.fs.length ∨ 800 < q.s.size) = b) :
    Calls Try.prog 7 #[.agg #[.int .i64 q.k, .int .i64 q.t, .slice q.a q.fs.length q.c, .string q.s]] w fun e w' => e = .returned (.bool b) ∧ Below w.heap.size w w' := hb ▸ long_any q.k q.t q.a q.fs.length q.c q.s w
theorem isO (x : Int) (hx : fitW x) {b : Bool} (hb : wIs x = b) (w : World) : Calls Try.prog 8 #[.int .u64 x] w fun e w' => e = .returned (.bool b) ∧ w = w' := by
  subst hb
  exact refIs_any x hx.1 (by have := hx.2; omega) w
theorem cells4O {w : World} {b : Nat} {T : TypeId} {a c d e : Value} (h : rowAt w b T [a, c, d, e]) : w.cell? ⟨b, 0, none⟩ = some a ∧ w.cell? ⟨b, 1, none⟩ = some c ∧ w.cell? ⟨b, 2, none⟩ = some d ∧ w.cell? ⟨b, 3, none⟩ = some e :=
  ⟨h.cell 0, h.cell 1, h.cell 2, h.cell 3⟩
theorem own_rowO {W : World} {B n n' c : Nat} {T : TypeId} {s : Nat} {a : Option Addr} {xs : List Value} (h : W.ownsRow B T s (.slice a n' c) n xs) (hn : n ≠ 0) : ∃ (g cap : Nat) (rest : List Value), a = some ⟨g, 0, none⟩ ∧ B ≤ g ∧ rowAt W g T (xs ++ rest) := by
  rcases owns_parts h with ⟨_, h1, _⟩ | ⟨g, cap, rest, e, hB, hr, _⟩
  · omega
  · cases e; exact ⟨g, c, rest, rfl, hB, hr⟩
theorem own_setO {W : World} {B g n c : Nat} {xs : List Int} (h : W.ownsRow B 39 1 (.slice (some ⟨g, 0, none⟩) n c) n (wordsL xs)) {j : Nat} (hj : j < xs.length) (y : Int) : (W.setCell ⟨g, j, none⟩ (.int .u64 y)).ownsRow B 39 1 (.slice (some ⟨g, 0, none⟩) n c) n (wordsL (xs.set j y)) := by
  rcases owns_parts h with ⟨e, _⟩ | ⟨g', cap, rest, e, hB, hr, h1, h2, h3, h4⟩
  · cases e
  · cases e
    exact owns_mk (rest := rest) (row_set hr hj y) hB (by simpa using h1) (by simpa using h2) h3 h4
theorem may_is (q : ObE) (w : World) {b : Bool} (hb : headR q.k q.t q.fs.length q.s.size = b) :
    Calls Try.prog 10 #[.agg #[.int .i64 q.k, .int .i64 q.t, .slice q.a q.fs.length q.c, .string q.s]] w fun e w' => e = .returned (.bool b) ∧ Below w.heap.size w w' := hb ▸ refMay_any q.k q.t q.a q.fs.length q.c q.s w
theorem rwords_isO (q : ObE) (w : World) {n : Nat} (hn : wordsR q.k q.t q.fs.length q.s.size = n) :
    Calls Try.prog 11 #[.agg #[.int .i64 q.k, .int .i64 q.t, .slice q.a q.fs.length q.c, .string q.s]] w fun e w' => e = .returned (.int .i64 (n : Int)) ∧ Below w.heap.size w w' := hn ▸ reWords_any q.k q.t q.a q.fs.length q.c q.s w
theorem owords_isO (q : ObE) (w : World) {n : Nat} (hn : wordsR q.k q.t q.fs.length q.s.size = n) :
    Calls Try.prog 13 #[.agg #[.int .i64 q.k, .int .i64 q.t, .slice q.a q.fs.length q.c, .string q.s]] w fun e w' => e = .returned (.int .i64 (n : Int)) ∧ Below w.heap.size w w' := hn ▸ owords_any q.k q.t q.a q.fs.length q.c q.s w
theorem place_isO (a x : Int) (hx : wPlace a = x) (h : 0 ≤ a ∧ a ≤ 2000) (w : World) : Calls Try.prog 12 #[.int .i64 a] w fun e w' => e = .returned (.int .u64 x) ∧ w = w' := by
  subst hx
  exact refPlace_any a (by omega) (by omega) w
theorem cellsO {w V : World} {p p2 b1 hb bo gb : Nat} {F : Nat → Prop} {A : Ar} {half tp k t : Int} {vw vh sl : Value} {s : ByteArray} {ws : List Int} {qs : List ObE} {W : World} {g0 g1 g2 g3 : Int} (h : OkO w V p p2 b1 hb F A half tp vw vh ws qs W) (hr : rowAt W bo 35 [.int .i64 k, .int .i64 t, sl, .string s]) (hg : rowAt W gb 33 [.int .i64 g0, .int .i64 g1, .int .i64 g2, .int .i64 g3]) :
    W.cell? ⟨bo, 0, none⟩ = some (.int .i64 k) ∧ W.cell? ⟨bo, 1, none⟩ = some (.int .i64 t) ∧ W.cell? ⟨bo, 2, none⟩ = some sl ∧ W.cell? ⟨bo, 3, none⟩ = some (.string s) ∧ W.cell? ⟨hb, 3, none⟩ = some (.int .i64 tp) ∧ W.cell? ⟨gb, 3, none⟩ = some (.int .i64 g3) :=
  ⟨hr.cell 0, hr.cell 1, hr.cell 2, hr.cell 3, h.hp.cell 3, hg.cell 3⟩
/-- What a round of the first loop leaves. -/
theorem rel_inO {w V : World} {p p2 b1 hb : Nat} {F : Nat → Prop} {A : Ar} {half tp : Int} {vw vh : Value} {ws : List Int} {qs : List ObE} {W : World} {obs : List Ob} {n i : Nat} (h : OkO w V p p2 b1 hb F A half tp vw vh ws qs W) (ho : A.objs 3 half 0 tp = some obs) (hq : BkO (0 * half) obs ws qs) (hi : ws.length ≤ i) (hil : i ≤ n) (v : Value) (hv : v = .int .i64 i) :
    ∃ (i : Nat) (A : Ar) (tp : Int) (ws : List Int) (qs : List ObE) (wa : Option Addr) (cw : Nat) (ha : Option Addr) (ch : Nat) (obs : List Ob), v = .int .i64 i ∧ vw = .slice wa ws.length cw ∧ vh = .slice ha qs.length ch ∧ i ≤ n ∧ Hid (OkO w V p p2 b1 hb F A half tp (.slice wa ws.length cw) (.slice ha qs.length ch) ws qs W) ∧ Hid (A.objs 3 half 0 tp = some obs) ∧ Hid (BkO (0 * half) obs ws qs) ∧ Hid (ws.length ≤ i) := by
  obtain ⟨wa, cw, e1⟩ := owns_slice h.ow
  obtain ⟨ha, ch, e2⟩ := owns_slice h.oh
  subst e1 e2
  exact ⟨i, A, tp, ws, qs, wa, cw, ha, ch, obs, hv, rfl, rfl, hil, Lib.hid h, Lib.hid ho, Lib.hid hq, Lib.hid hi⟩
theorem keepO {w V : World} {p p2 b1 hb bo : Nat} {F : Nat → Prop} {A : Ar} {half tp : Int} {vw vh : Value} {ws : List Int} {qs : List ObE} {q q' : ObE} {E : List (Nat × TypeId × List Value)} {W : World} (h : TwO w V p p2 b1 hb F A half tp vw vh ws qs q' E W) (hE : (bo, 35, obCs q) ∈ E) :
    W.cell? ⟨bo, 0, none⟩ = some (.int .i64 q.k) ∧ W.cell? ⟨bo, 1, none⟩ = some (.int .i64 q.t) ∧ W.cell? ⟨bo, 2, none⟩ = some (.slice q.a q.fs.length q.c) ∧ W.cell? ⟨bo, 3, none⟩ = some (.string q.s) :=
  cells4O (h.ex _ hE).1
theorem words_few {k t : Int} {nf nt : Nat} (h : headR k t nf nt = true) : (wordsR k t nf nt : Int) ≤ 500 := by
  have := headR_len h
  unfold wordsR
  rw [if_pos h]
  have h2 : longH k (sizeH k nf nt) ≤ sizeH k nf nt := by unfold longH; split <;> omega
  omega
/-- What Set tells of a word of the list, both ways. -/
def SetPost (w V : World) (p p2 b1 hb : Nat) (F : Nat → Prop) (half tp : Int) (obs : List Ob) (m : Nat) (q : ObE) (f : Nat) (v : Int) (A : Ar) (vw vh : Value) (ws : List Int) (qs : List ObE) (e : Ending) (w' : World) : Prop :=
  ∃ A', e = .returned (.bool (decide (f < q.fs.length))) ∧ OkO w V p p2 b1 hb F A' half tp vw vh ws qs w' ∧ ((f < q.fs.length ∧ A'.objs 3 half 0 tp = some (setAll obs m f v)) ∨ (¬ f < q.fs.length ∧ A' = A))
theorem set_both {w V : World} {p p2 b1 hb : Nat} {F : Nat → Prop} {A : Ar} {half tp : Int} {obs : List Ob} {vw vh : Value} {ws : List Int} {qs : List ObE} {W : World} (h : OkO w V p p2 b1 hb F A half tp vw vh ws qs W) (ho : A.objs 3 half 0 tp = some obs) {x v : Int} {m f : Nat} {q : ObE} (hx : fitW x) (hv : fitW v)
    (hm : refers (0 * half) obs x = some m) (hq : objAt obs m = some (obO q)) (hf : fieldOk (0 * half) obs v = true) (hf2 : f ≤ 255) :
    Calls Try.prog 14 #[.pointer (some ⟨p, 0, none⟩), .agg #[.int .i64 3, .int .i64 half, .int .i64 0, .int .i64 tp], .int .u64 x, .int .i64 (f : Int), .int .u64 v] W (SetPost w V p p2 b1 hb F half tp obs m q f v A vw vh ws qs) := by
  refine (set_any' h.os.held 3 half 0 tp x (f : Int) v hx hv (by omega) (by omega)).mono ?_
  intro e w' ⟨hs, hp⟩
  have ok := h.os.held.ok
  have hset : A.setAt 3 half 0 tp x (f : Int) v = if f < q.fs.length then some (0 * half + (m : Int) + 1 + (f : Int)) else none := by
    unfold Ar.setAt
    rw [ho]
    simp only [hm, hq]
    have e1 : (obO q).fs.length = q.fs.length := rfl
    rw [e1]
    by_cases hl : f < q.fs.length
    · rw [if_pos ⟨by omega, by omega, hf⟩, if_pos hl]
    · rw [if_neg (fun h => by omega), if_neg hl]
  by_cases hl : f < q.fs.length
  · rw [if_pos hl] at hset
    rcases hp with ⟨z, hz, rfl, hh⟩ | ⟨hz, _⟩
    · rw [hset] at hz
      cases hz
      exact ⟨_, by rw [decide_eq_true hl], h.step hs hh, .inl ⟨hl, objs_set ok ho hq hl hf hv⟩⟩
    · rw [hset] at hz; cases hz
  · rw [if_neg hl] at hset
    rcases hp with ⟨z, hz, _⟩ | ⟨hz, rfl, hh⟩
    · rw [hset] at hz; cases hz
    · exact ⟨A, by rw [decide_eq_false hl], h.step hs hh, .inr ⟨hl, rfl⟩⟩
theorem text_back (s : ByteArray) : (⟨s.data.toList.toArray⟩ : ByteArray) = s := by
  cases s
  simp
/-- What Get tells of a word of the list. -/
theorem get_is {w V : World} {p p2 b1 hb : Nat} {F : Nat → Prop} {A : Ar} {half tp : Int} {obs : List Ob} {vw vh : Value} {ws : List Int} {qs : List ObE} {W : World} (h : OkO w V p p2 b1 hb F A half tp vw vh ws qs W) (ho : A.objs 3 half 0 tp = some obs) {x : Int} {m : Nat} {q : ObE} (hx : fitW x) (hm : refers (0 * half) obs x = some m) (hq : objAt obs m = some (obO q)) :
    Calls Try.prog 15 #[.pointer (some ⟨p, 0, none⟩), .agg #[.int .i64 3, .int .i64 half, .int .i64 0, .int .i64 tp], .int .u64 x] W fun e w' => Below W.heap.size W w' ∧ ∃ a c, e = .returned (.tuple #[.agg #[.int .i64 q.k, .int .i64 q.t, .slice a q.fs.length c, .string q.s], .bool true]) ∧ w'.ownsRow W.heap.size 39 1 (.slice a q.fs.length c) q.fs.length (wordsL q.fs) := by
  refine (get_any' h.os.held 3 half 0 tp x hx).mono ?_
  intro e w' ⟨hb', hp⟩
  have hg : A.getOb 3 half 0 tp x = some (obO q) := by
    unfold Ar.getOb
    rw [ho]
    simp only [hm, hq]
  rcases hp with ⟨o, a, c, h1, h2, h3⟩ | ⟨h1, _⟩
  · rw [hg] at h1
    cases h1
    have et : (⟨(obO q).tx.toArray⟩ : ByteArray) = q.s := text_back q.s
    rw [et] at h2
    exact ⟨hb', a, c, h2, h3⟩
  · rw [hg] at h1; cases h1
theorem goodO {w : World} {p : Nat} {F : Nat → Prop} {A : Ar} (hA : Held w p F A) (base half space top : Int) {obs : List Ob} (ho : A.objs base half space top = some obs) :
    Calls Try.prog 17 #[.pointer (some ⟨p, 0, none⟩), heapV base half space top] w fun e w' => e = .returned (.bool true) ∧ Below w.heap.size w w' :=
  (good_any hA base half space top).mono fun e w' h => by rw [ho] at h; exact h
theorem cellsP {w V : World} {p p2 b1 hb wg n c : Nat} {F : Nat → Prop} {A : Ar} {half tp : Int} {vh : Value} {ws : List Int} {qs : List ObE} {W : World} (h : OkO w V p p2 b1 hb F A half tp (.slice (some ⟨wg, 0, none⟩) n c) vh ws qs W) {k : Nat} {x : Int} (hx : ws[k]? = some x) :
    W.cell? ⟨b1, 0, none⟩ = some (.pointer (some ⟨p, 0, none⟩)) ∧ W.cell? ⟨hb, 0, none⟩ = some (.int .i64 3) ∧ W.cell? ⟨hb, 1, none⟩ = some (.int .i64 half) ∧ W.cell? ⟨hb, 2, none⟩ = some (.int .i64 0) ∧ W.cell? ⟨hb, 3, none⟩ = some (.int .i64 tp) ∧ W.cell? ⟨wg, k, none⟩ = some (.int .u64 x) := by
  refine ⟨h.os.two.cell 0, h.hp.cell 0, h.hp.cell 1, h.hp.cell 2, h.hp.cell 3, ?_⟩
  rcases owns_parts h.ow with ⟨e, _⟩ | ⟨g, cap, rest, e, _, hr, _⟩
  · cases e
  · cases e
    rw [hr.cell, List.getElem?_append_left (by have := (List.getElem?_eq_some_iff.1 hx).1; simpa using this)]
    simp [wordsL, hx]
theorem cellsH {w V : World} {p p2 b1 hb hg n c : Nat} {F : Nat → Prop} {A : Ar} {half tp : Int} {vw : Value} {ws : List Int} {qs : List ObE} {W : World} (h : OkO w V p p2 b1 hb F A half tp vw (.slice (some ⟨hg, 0, none⟩) n c) ws qs W) {k : Nat} {q : ObE} (hq : qs[k]? = some q) :
    W.cell? ⟨hg, k * 4, none⟩ = some (.int .i64 q.k) ∧ W.cell? ⟨hg, k * 4 + 1, none⟩ = some (.int .i64 q.t) ∧ W.cell? ⟨hg, k * 4 + 2, none⟩ = some (.slice q.a q.fs.length q.c) ∧ W.cell? ⟨hg, k * 4 + 3, none⟩ = some (.string q.s) := by
  obtain ⟨h1, h2, h3, h4⟩ := obL_get qs k q hq
  have hl := obL_length qs
  have hk := (List.getElem?_eq_some_iff.1 hq).1
  rcases owns_parts h.oh with ⟨e, _⟩ | ⟨g, cap, rest, e, _, hr, _⟩
  · cases e
  · cases e
    refine ⟨?_, ?_, ?_, ?_⟩ <;> (rw [hr.cell, List.getElem?_append_left (by omega)]; assumption)
theorem freeH {w V : World} {p p2 b1 hb hg n c : Nat} {F : Nat → Prop} {A : Ar} {half tp : Int} {vw : Value} {ws : List Int} {qs : List ObE} {W : World} (h : OkO w V p p2 b1 hb F A half tp vw (.slice (some ⟨hg, 0, none⟩) n c) ws qs W) : hg < W.heap.size ∧ ∀ o, W.frozen? ⟨hg, o, none⟩ = false := by
  rcases owns_parts h.oh with ⟨e, _⟩ | ⟨g, cap, rest, e, _, hr, _⟩
  · cases e
  · cases e
    exact ⟨hr.lt, fun o => hr.free o⟩
theorem cellsR {w V : World} {p p2 b1 hb hg go n c : Nat} {F : Nat → Prop} {A : Ar} {half tp : Int} {vw : Value} {ws : List Int} {qs : List ObE} {W : World} {j : Nat} {q : ObE} {ga : Option Addr} {gc : Nat} (h : OkO w V p p2 b1 hb F A half tp vw (.slice (some ⟨hg, 0, none⟩) n c) ws qs W) (hr : rowAt W go 35 [.int .i64 q.k, .int .i64 q.t, .slice ga q.fs.length gc, .string q.s]) (hq : qs[j]? = some q) :
    W.cell? ⟨go, 0, none⟩ = some (.int .i64 q.k) ∧ W.cell? ⟨go, 1, none⟩ = some (.int .i64 q.t) ∧ W.cell? ⟨go, 2, none⟩ = some (.slice ga q.fs.length gc) ∧ W.cell? ⟨go, 3, none⟩ = some (.string q.s) ∧ W.cell? ⟨hg, j * 4, none⟩ = some (.int .i64 q.k) ∧ W.cell? ⟨hg, j * 4 + 1, none⟩ = some (.int .i64 q.t) ∧ W.cell? ⟨hg, j * 4 + 2, none⟩ = some (.slice q.a q.fs.length q.c) ∧ W.cell? ⟨hg, j * 4 + 3, none⟩ = some (.string q.s) := by
  obtain ⟨h1, h2, h3, h4⟩ := cellsH h hq
  exact ⟨hr.cell 0, hr.cell 1, hr.cell 2, hr.cell 3, h1, h2, h3, h4⟩
theorem keepO_is (q : ObE) {a : Option Addr} {c : Nat} {w : World} (hl : q.fs.length ≤ 100000) (hu : readsAt w (.slice a q.fs.length c) q.fs.length (wordsL q.fs)) (hv : readsAt w (.slice q.a q.fs.length q.c) q.fs.length (wordsL q.fs)) :
    Calls Try.prog 16 #[.agg #[.int .i64 q.k, .int .i64 q.t, .slice a q.fs.length c, .string q.s], .agg #[.int .i64 q.k, .int .i64 q.t, .slice q.a q.fs.length q.c, .string q.s]] w fun e w' => e = .returned (.bool true) ∧ Below w.heap.size w w' :=
  keepObject_same q.k q.t a q.a q.fs c q.c q.s w hu hv hl
theorem few_ob {A : Ar} (ok : A.Ok) {half top : Int} {obs : List Ob} (ho : A.objs 3 half 0 top = some obs) {m : Nat} {q : ObE} (hq : objAt obs m = some (obO q)) : q.fs.length ≤ 400 := by
  have h := ((objs_ok ok ho).1 _ (objAt_mem _ m _ hq)).1
  rw [may_ob] at h
  exact (headR_len h).1
theorem nil_orO (l : List Int) : l.length = 0 ∨ 0 < (wordsL l).length := by cases l <;> simp
/-- Behind Get: the object's variable, that there is one. -/
def CutG (w V : World) (p p2 b1 hb : Nat) (F : Nat → Prop) (A : Ar) (half tp : Int) (vw vh : Value) (ws : List Int) (qs : List ObE) (q : ObE) (v26 v27 : Value) (wx : World) : Prop :=
  ∃ go ga gc, v26 = .pointer (some ⟨go, 0, none⟩) ∧ v27 = .bool true ∧ OkO w V p p2 b1 hb F A half tp vw vh ws qs wx ∧ rowAt wx go 35 [.int .i64 q.k, .int .i64 q.t, .slice ga q.fs.length gc, .string q.s] ∧ readsAt wx (.slice ga q.fs.length gc) q.fs.length (wordsL q.fs)
theorem cutG_last {w V : World} {p p2 b1 hb : Nat} {F : Nat → Prop} {A : Ar} {half tp : Int} {vw vh : Value} {ws : List Int} {qs : List ObE} {q : ObE} {W : World} {ga : Option Addr} {gc : Nat} (K : OkO w V p p2 b1 hb F A half tp vw vh ws qs W) (h : readsAt W (.slice ga q.fs.length gc) q.fs.length (wordsL q.fs)) :
    CutG w V p p2 b1 hb F A half tp vw vh ws qs q (.pointer (some ⟨W.heap.size, 0, none⟩)) (.bool true) (W.alloc (.cells #[.int .i64 q.k, .int .i64 q.t, .slice ga q.fs.length gc, .string q.s] 35)) :=
  ⟨_, ga, gc, rfl, rfl, K.al _, rowAt.made _ _ _, h.below (nil_orO q.fs) (bl_alloc (Below.refl _ _) _)⟩
theorem cutG_set {w V : World} {p p2 b1 hb : Nat} {F : Nat → Prop} {A : Ar} {half tp : Int} {vw vh : Value} {ws : List Int} {qs : List ObE} {q : ObE} {W W0 : World} {ga : Option Addr} {gc B : Nat} {a c d e : Value} (K : OkO w V p p2 b1 hb F A half tp vw vh ws qs W) (K0 : OkO w V p p2 b1 hb F A half tp vw vh ws qs W0) (hz : rowAt W W0.heap.size 35 [a, c, d, e])
    (h : W.ownsRow B 39 1 (.slice ga q.fs.length gc) q.fs.length (wordsL q.fs)) (hn : ∀ g, (Value.slice ga q.fs.length gc).ownBlock = some g → g ≠ W0.heap.size) :
    CutG w V p p2 b1 hb F A half tp vw vh ws qs q (.pointer (some ⟨W0.heap.size, 0, none⟩)) (.bool true) ((((W.setCell ⟨W0.heap.size, 0, none⟩ (.int .i64 q.k)).setCell ⟨W0.heap.size, 1, none⟩ (.int .i64 q.t)).setCell ⟨W0.heap.size, 2, none⟩ (.slice ga q.fs.length gc)).setCell ⟨W0.heap.size, 3, none⟩ (.string q.s)) := by
  have hu : Upon (fun j => j = W0.heap.size) W ((((W.setCell ⟨W0.heap.size, 0, none⟩ (.int .i64 q.k)).setCell ⟨W0.heap.size, 1, none⟩ (.int .i64 q.t)).setCell ⟨W0.heap.size, 2, none⟩ (.slice ga q.fs.length gc)).setCell ⟨W0.heap.size, 3, none⟩ (.string q.s)) :=
    uponO4 _ _ _ _ _ _ _ _ _ _
  exact ⟨_, ga, gc, rfl, rfl, K.side K0 hu (fun j e => by omega), (((hz.set 0 _).set 1 _).set 2 _).set 3 _, readsAt.of_owns (owns_upon h hu hn)⟩
theorem tmod_nat {x : Int} (n : Nat) (h0 : 0 ≤ x) : x.tmod (n : Int) = ((x.toNat % n : Nat) : Int) := by
  obtain ⟨m, rfl⟩ : ∃ m : Nat, x = m := ⟨x.toNat, by omega⟩
  rw [Int.tmod_eq_emod_of_nonneg h0]
  simp
theorem readsO_drew {W : World} {v : Value} {n : Nat} {cs : List Value} (h : readsAt W v n cs) : readsAt W.drew v n cs := h
theorem keepO_at {w V : World} {p p2 b1 hb : Nat} {F : Nat → Prop} {A : Ar} {half tp : Int} {vw vh : Value} {ws : List Int} {qs : List ObE} {q : ObE} {W : World} {ga : Option Addr} {gc : Nat} (h : OkO w V p p2 b1 hb F A half tp vw vh ws qs W) (hq : q ∈ qs) (hl : q.fs.length ≤ 400) (hr : readsAt W (.slice ga q.fs.length gc) q.fs.length (wordsL q.fs)) :
    Calls Try.prog 16 #[.agg #[.int .i64 q.k, .int .i64 q.t, .slice ga q.fs.length gc, .string q.s], .agg #[.int .i64 q.k, .int .i64 q.t, .slice q.a q.fs.length q.c, .string q.s]] W.drew fun e w' => e = .returned (.bool true) ∧ Below W.drew.heap.size W.drew w' :=
  keepO_is q (by omega) (readsO_drew hr) (readsAt.of_owns (h.drew.fl q hq).1)
set_option maxHeartbeats 64000000 in
theorem walk (a0 : Int) (la : Option Addr) (lc : Nat) (l : List ObE) (v2 : Value) (n2 : Nat) (f2 : Nat → Nat → Int) (w : World) (hw0 : (Lit.int .u8 a0).wf = true) (hob : ∀ x ∈ l, obOk w x)
    (hcl : l.length = 0 ∨ ∃ b o, la = some ⟨b, o, none⟩ ∧ ∀ (i : Nat) (x : ObE), l[i]? = some x → w.cell? ⟨b, o + i * 4, none⟩ = some (.int .i64 x.k) ∧ w.cell? ⟨b, o + i * 4 + 1, none⟩ = some (.int .i64 x.t) ∧ w.cell? ⟨b, o + i * 4 + 2, none⟩ = some (.slice x.a x.fs.length x.c) ∧ w.cell? ⟨b, o + i * 4 + 3, none⟩ = some (.string x.s))
    (hr2 : structsAt w v2 n2 [.u8, .u8, .u8] f2) (hm2 : n2 ≤ maxLen) :
    Calls Try.prog 3 #[.int .u8 a0, .slice la l.length lc, v2] w fun e w' => e = .returned (.bool true) ∧ Below w.heap.size w w' := by
  have ha : 0 ≤ a0 ∧ a0 ≤ 255 := by
    simp [Lit.wf, IntKind.min, IntKind.max, IntKind.signed, IntKind.bits] at hw0
    omega
  obtain ⟨N, hN⟩ : ∃ N : Nat, 8 + a0 % 150 = (N : Int) := ⟨(8 + a0 % 150).toNat, by omega⟩
  have hN1 : 8 ≤ N ∧ N ≤ 157 := by omega
  have HN := Lib.hid hN1
  obtain ⟨va, vc, rfl, hwf2, hc2⟩ := hr2
  have HO := Lib.hid hob
  have HC := Lib.hid hcl
  have HS := Lib.hid hc2
  have HW2 := Lib.hid hwf2
  clear hw0 hob hcl hc2 hwf2 hm2
  have hu8 : IntKind.i64.wrap a0 = a0 := by rw [IntKind.wrap_i64]; omega
  have hrem : a0.tmod 150 = a0 % 150 := Int.tmod_eq_emod_of_nonneg (by omega)
  have hmk := make_words (2 * N) (by omega)
  rw [show ((2 * N : Nat) : Int) = 2 * (N : Int) by omega] at hmk
  have hw1 : wrap64 (8 + a0 % 150) = (N : Int) := by unfold wrap64; omega
  have hw2 : wrap64 (2 * (N : Int)) = 2 * (N : Int) := by unfold wrap64; omega
  go_enter Try.func3, Try.ntmps3
  go_wp2_with fail
  refine (lay_any _ _ (List.replicate (2 * N) 0) (by rw [List.length_replicate]; exact readsAt.row (rest := []) (by rw [List.append_nil]; have := rowAt.made w 39 (List.replicate (2 * N) (.int .u64 0)); simpa [wordsL] using this)) (fun x hx => by obtain rfl := List.eq_of_mem_replicate hx; exact ⟨by decide, by decide⟩) (by rw [List.length_replicate]; omega)).mono ?_
  rintro e w2 ⟨p, p2, F, G, rfl, h1, h2, h3, h4, h5, h6⟩
  clear h2 h3 h5 hmk hu8 hrem hw1 hw2
  have hs2 := h6.size
  simp at hs2
  have H1 := Lib.hid h1
  have H4 := Lib.hid (fun k (hk : F k) => show w.heap.size ≤ k by have := h4 k hk; simp at this; omega)
  have H6 := Lib.hid (bl_call (bl_alloc (Below.refl w.heap.size w) _) h6)
  clear h1 h4 h6 hs2
  obtain ⟨b1, hb1⟩ : ∃ b1, w2.heap.size = b1 := ⟨_, rfl⟩
  obtain ⟨W3, hW3⟩ : ∃ W3, w2.alloc (.cells #[.pointer (some ⟨p, 0, none⟩), .pointer (some ⟨p2, 0, none⟩)] 27) = W3 := ⟨_, rfl⟩
  obtain ⟨A0, hA0⟩ : ∃ A0, Ar.bare (2 * N) = A0 := ⟨_, rfl⟩
  have O0 : Hid (A0.objs 3 (N : Int) 0 0 = some []) := Lib.hid (by rw [← hA0]; exact empty_objs N 0 (by omega) (by omega) (by omega))
  have K3 : Hid (Osl w p p2 F A0 b1 W3) := by
    have hb : Below w2.heap.size w2 W3 := by rw [← hW3]; exact bl_alloc (Below.refl _ _) _
    exact ⟨by rw [← hA0]; exact H1.out.below hb, by rw [← hW3, ← hb1]; exact rowAt.made _ _ _, fun hf => by have := H1.out.lt _ hf; omega, H4.out, by have := H6.out.size; omega, bl_call H6.out hb⟩
  have FB1 := Lib.hid (fun k (hk : F k) => show k < b1 by have := H1.out.lt _ hk; omega)
  clear hA0 H1
  by_cases h30 : 30 < l.length
  · have d30 : (30 : Int) < (l.length : Int) := by omega
    clear h30
    go_wp2_with fail
    refine (wakes_any _).mono ?_
    rintro e wz ⟨rfl, hb⟩
    have BZ := Lib.hid (bl_call K3.out.below hb)
    clear hb
    go_wp2_with fail
    go_ret
    exact ⟨rfl, BZ.out⟩
  · have d30 : ¬ (30 : Int) < (l.length : Int) := by omega
    by_cases g30 : 30 < n2
    · have e30 : (30 : Int) < (n2 : Int) := by omega
      clear g30
      go_wp2_with fail
      refine (wakes_any _).mono ?_
      rintro e wz ⟨rfl, hb⟩
      have BZ := Lib.hid (bl_call K3.out.below hb)
      clear hb
      go_wp2_with fail
      go_ret
      exact ⟨rfl, BZ.out⟩
    · have e30 : ¬ (30 : Int) < (n2 : Int) := by omega
      go_wp2_with fail
      obtain ⟨hb, hhb⟩ : ∃ hb, W3.heap.size = hb := ⟨_, rfl⟩
      obtain ⟨V, hV⟩ : ∃ V, W3.alloc (.cells #[.int .i64 3, .int .i64 (N : Int), .int .i64 0, .int .i64 0] 33) = V := ⟨_, rfl⟩
      have OK0 : Hid (OkO w V p p2 b1 hb F A0 (N : Int) 0 (.slice none 0 0) (.slice none 0 0) [] [] V) := by
        have hb' : Below W3.heap.size W3 V := by rw [← hV]; exact bl_alloc (Below.refl _ _) _
        have hz : rowAt V hb 33 [.int .i64 3, .int .i64 (N : Int), .int .i64 0, .int .i64 0] := by rw [← hV, ← hhb]; exact rowAt.made _ _ _
        have lb := K3.out.two.lt
        have lw := K3.out.below.size
        exact ⟨K3.out.on hb', Upon.refl _ _, hz, fun hf => by have := FB1.out _ hf; omega, by omega, by omega, hz.lt, by have := hz.lt; omega, fun k hk => by have := FB1.out _ hk; have := hz.lt; omega, World.ownsRow_nil _ _ _ 1, World.ownsRow_nil _ _ _ 4, fun q h => by cases h⟩
      rw [hV, hhb]
      clear hW3 hV hhb hb1
      go_loopw [12, 13, 14] (fun vw vh vi wr => ∃ (i : Nat) (A : Ar) (tp : Int) (ws : List Int) (qs : List ObE) (wa : Option Addr) (cw : Nat) (ha : Option Addr) (ch : Nat) (obs : List Ob), vi = .int .i64 i ∧ vw = .slice wa ws.length cw ∧ vh = .slice ha qs.length ch ∧ i ≤ l.length ∧ Hid (OkO w V p p2 b1 hb F A (N : Int) tp (.slice wa ws.length cw) (.slice ha qs.length ch) ws qs wr) ∧ Hid (A.objs 3 (N : Int) 0 tp = some obs) ∧ Hid (BkO (0 * (N : Int)) obs ws qs) ∧ Hid (ws.length ≤ i)) (fun _ _ vi _ => l.length - (intOf vi).toNat)
      case atStart => exact ⟨0, A0, 0, [], [], none, 0, none, 0, [], rfl, rfl, rfl, Nat.zero_le _, OK0, O0, Lib.hid (BkO.nil _ _), Lib.hid (Nat.le_refl _)⟩
      case round =>
        obtain ⟨i, A, tp, ws, qs, wa, cw, ha, ch, obs, rfl, rfl, rfl, hi, HK, HOB, HQ, HI⟩ := hrel
        by_cases hil : i < l.length
        · as_aux_lemma =>
          obtain ⟨wo, rfl⟩ : ∃ wo : World, wo = wr := ⟨_, rfl⟩
          obtain ⟨q, hqi⟩ : ∃ x, l[i]? = some x := ⟨_, List.getElem?_eq_getElem hil⟩
          have HME := Lib.hid (List.mem_of_getElem? hqi)
          obtain ⟨lb, lo, hla, hcells⟩ : ∃ b o, la = some ⟨b, o, none⟩ ∧ (w.cell? ⟨b, o + i * 4, none⟩ = some (.int .i64 q.k) ∧ w.cell? ⟨b, o + i * 4 + 1, none⟩ = some (.int .i64 q.t) ∧ w.cell? ⟨b, o + i * 4 + 2, none⟩ = some (.slice q.a q.fs.length q.c) ∧ w.cell? ⟨b, o + i * 4 + 3, none⟩ = some (.string q.s)) := by
            rcases HC.out with h | ⟨b, o, e, h⟩
            · omega
            · exact ⟨b, o, e, h i q hqi⟩
          subst hla
          have QO := Lib.hid (HO.out q HME.out)
          have old : ∀ {k : Nat} {v : Value}, w.cell? ⟨lb, k, none⟩ = some v → wo.cell? ⟨lb, k, none⟩ = some v := fun h => (HK.out.os.below.cell (p := ⟨lb, _, none⟩) (World.block_lt_of_cell? w _ h)).trans h
          have c0 := old hcells.1
          have c1 := old hcells.2.1
          have c2 := old hcells.2.2.1
          have c3 := old hcells.2.2.2
          clear hcells hqi old
          go_wp2_with fail
          clear c0 c1 c2 c3
          have hz : q.fs.length = 0 ∨ 0 < (wordsL q.fs).length := by cases q.fs <;> simp
          refine (ownObject_any q.k q.t q.a q.c q.fs q.s (QO.out.rd.below hz HK.out.os.below) (by have := QO.out.len; have : reachBytes = 140737488351232 := rfl; omega)).mono ?_
          rintro e w4 ⟨ba, bc, rfl, hof, hb4⟩
          have K4 := Lib.hid (HK.out.on hb4)
          have HS4 := Lib.hid hb4.size
          have OF4 := Lib.hid hof
          have NW4 := Lib.hid (fun g (hg : (Value.slice ba q.fs.length bc).ownBlock = some g) => (hof.lt g hg))
          clear hof hb4 hz
          obtain ⟨bo, hbo⟩ : ∃ bo, w4.heap.size = bo := ⟨_, rfl⟩
          obtain ⟨W5, hW5⟩ : ∃ W, w4.alloc (.cells #[.int .i64 q.k, .int .i64 q.t, .slice ba q.fs.length bc, .string q.s] 35) = W := ⟨_, rfl⟩
          have HBO := Lib.hid (show wo.heap.size ≤ bo from by rw [← hbo]; exact HS4.out)
          have R5 := Lib.hid (show rowAt W5 bo 35 [.int .i64 q.k, .int .i64 q.t, .slice ba q.fs.length bc, .string q.s] by rw [← hW5, ← hbo]; exact rowAt.made _ _ _)
          have K5 := Lib.hid (show OkO w V p p2 b1 hb F A (N : Int) tp (.slice wa ws.length cw) (.slice ha qs.length ch) ws qs W5 by rw [← hW5]; exact K4.out.al _)
          have OF5 := Lib.hid (show W5.ownsRow wo.heap.size 39 1 (.slice ba q.fs.length bc) q.fs.length (wordsL q.fs) by rw [← hW5]; exact owns_upon OF4.out (Upon.alloc (fun _ => False) _ _) (fun _ _ t => t))
          obtain ⟨bL, hbL⟩ : ∃ b, decide (600 < q.fs.length ∨ 800 < q.s.size) = b := ⟨_, rfl⟩
          obtain ⟨c0, c1, c2, c3⟩ := cells4O R5.out
          go_wp2_with fail
          clear c0 c1 c2 c3 hW5 hbo
          refine (long_is ⟨q.k, q.t, ba, bc, q.fs, q.s⟩ _ hbL).mono ?_
          rintro e w6 ⟨rfl, hb6⟩
          have K6 := Lib.hid (K5.out.on hb6)
          have R6 := Lib.hid (R5.out.below hb6 R5.out.lt)
          have OF6 := Lib.hid (owns_upon OF5.out (Upon.of_below (S := fun _ => False) hb6) (fun _ _ t => t))
          clear hb6
          cases bL
          rotate_left
          · skip
            go_wp2_with fail
            refine (wakes_any _).mono ?_
            rintro e wz ⟨rfl, hb⟩
            have BZ := Lib.hid (bl_call K6.out.os.below hb)
            clear hb
            go_wp2_with fail
            refine bodyPost_ret (v := .bool true) (by simp [results, Try.results3, go_sem]) rfl ⟨rfl, BZ.out⟩
          · have hlen : q.fs.length ≤ 600 := by have := of_decide_eq_false hbL; omega
            have htx : q.s.size ≤ 800 := by have := of_decide_eq_false hbL; omega
            clear hbL
            have NM := Lib.hid (objs_numsO HK.out.os.held.ok HOB.out)
            have HFB := Lib.hid (show (0 : Int) * (N : Int) + ((flat obs).length : Int) ≤ 4294967295 from by have := NM.out; omega)
            have hwl : ws.length ≤ 30 := by have := HI.out; omega
            go_wp2_with fail
            go_loopw [16] (fun vk wr => ∃ k : Nat, vk = .int .i64 k ∧ k ≤ q.fs.length ∧ Hid (OkO w V p p2 b1 hb F A (N : Int) tp (.slice wa ws.length cw) (.slice ha qs.length ch) ws qs wr) ∧ Hid (rowAt wr bo 35 [.int .i64 q.k, .int .i64 q.t, .slice ba q.fs.length bc, .string q.s]) ∧ Hid (wr.ownsRow wo.heap.size 39 1 (.slice ba q.fs.length bc) q.fs.length (wordsL (fixTo ws k q.fs)))) (fun vk _ => q.fs.length - (intOf vk).toNat)
            case atStart => exact ⟨0, rfl, Nat.zero_le _, K6, R6, Lib.hid (by rw [fixTo_zero]; exact OF6.out)⟩
            case round =>
              obtain ⟨k, rfl, hk, HK7, HR7, HF7⟩ := hrel
              by_cases hkl : k < q.fs.length
              · as_aux_lemma =>
                obtain ⟨g, cap, rest, hba, hgB, hgr⟩ := own_rowO HF7.out (by omega)
                subst hba
                have hgr2 := hgr
                obtain ⟨x, hx⟩ : ∃ x, q.fs[k] = x := ⟨_, rfl⟩
                have FX := Lib.hid (show fitW x from hx ▸ QO.out.fit _ (List.getElem_mem hkl))
                have GR := Lib.hid (show rowAt wr g 39 (wordsL (fixTo ws k q.fs) ++ rest) from hgr)
                have GB := Lib.hid (show wo.heap.size ≤ g from hgB)
                have SUC := Lib.hid (show ∀ y, y = fixF ws x → (fixTo ws k q.fs).set k y = fixTo ws (k + 1) q.fs from fun y hy => by rw [hy, ← hx]; exact fixTo_succ ws hkl)
                have cg : wr.cell? ⟨g, k, none⟩ = some (.int .u64 x) := by
                  have h1 : (fixTo ws k q.fs)[k]? = some q.fs[k] := fixTo_get ws hkl
                  rw [hgr.cell, List.getElem?_append_left (by simp [fixTo_length]; exact hkl)]
                  simp only [wordsL, List.getElem?_map, h1, Option.map_some, hx]
                have fg := hgr.free k
                have lg := hgr.lt
                obtain ⟨c0, c1, c2, c3⟩ := cells4O HR7.out
                have NBO := Lib.hid (show g ≠ bo from fun e => by
                  subst e
                  have h1 := HR7.out
                  unfold rowAt at h1 hgr2
                  rw [h1] at hgr2
                  injection hgr2 with h3
                  injection h3 with h4 h5
                  exact absurd h5 (by decide))
                have FIN := Lib.hid (show ∀ (W : World), OkO w V p p2 b1 hb F A (N : Int) tp (.slice wa ws.length cw) (.slice ha qs.length ch) ws qs W → rowAt W bo 35 [.int .i64 q.k, .int .i64 q.t, .slice (some ⟨g, 0, none⟩) q.fs.length bc, .string q.s] → W.ownsRow wo.heap.size 39 1 (.slice (some ⟨g, 0, none⟩) q.fs.length bc) q.fs.length (wordsL (fixTo ws k q.fs)) → ∀ y, y = fixF ws x →
                  OkO w V p p2 b1 hb F A (N : Int) tp (.slice wa ws.length cw) (.slice ha qs.length ch) ws qs (W.setCell ⟨g, k, none⟩ (.int .u64 y)) ∧ rowAt (W.setCell ⟨g, k, none⟩ (.int .u64 y)) bo 35 [.int .i64 q.k, .int .i64 q.t, .slice (some ⟨g, 0, none⟩) q.fs.length bc, .string q.s] ∧ (W.setCell ⟨g, k, none⟩ (.int .u64 y)).ownsRow wo.heap.size 39 1 (.slice (some ⟨g, 0, none⟩) q.fs.length bc) q.fs.length (wordsL (fixTo ws (k + 1) q.fs)) from fun W h1 h2 h3 y hy =>
                  ⟨h1.side HK.out (Upon.setCell (S := fun j => j = g) ⟨g, k, none⟩ _ rfl) (fun j e => by subst e; exact GB.out), h2.other _ _ (Ne.symm NBO.out), by
                    have h4 := own_setO h3 (j := k) (by rw [fixTo_length]; exact hkl) y
                    rw [SUC.out y hy] at h4
                    exact h4⟩)
                clear hgr hgr2 hgB hx
                have hxb : 0 ≤ x ∧ x < 18446744073709551616 := FX.out
                cases hI : wIs x
                · by_cases hw0 : 0 < ws.length
                  · as_aux_lemma =>
                    have EY : Hid (∃ (y : Int) (j : Nat), y = fixF ws x ∧ j < ws.length ∧ ws[j]? = some y ∧ (x % 64).tmod (ws.length : Int) = (j : Int)) := Lib.hid (by
                      have hj := Nat.mod_lt (x % 64).toNat hw0
                      refine ⟨_, (x % 64).toNat % ws.length, rfl, hj, ?_, ?_⟩
                      · unfold fixF
                        rw [if_pos ⟨hI, List.length_pos_iff.1 hw0⟩, List.getD_eq_getElem?_getD, List.getElem?_eq_getElem hj]
                        rfl
                      · exact tmod_nat _ (by omega))
                    obtain ⟨y, j, hy, hj, hwj, htm⟩ := EY.out
                    obtain ⟨wg, wcap, wrest, hwa, hwB, hwr⟩ := own_rowO HK7.out.ow (by omega)
                    subst hwa
                    have cw0 : wr.cell? ⟨wg, j, none⟩ = some (.int .u64 y) := by
                      rw [hwr.cell, List.getElem?_append_left (by simpa using hj)]
                      simp [wordsL, hwj]
                    have hw0I : (0 : Int) < (ws.length : Int) := by omega
                    have hwne : ¬ ws = [] := List.length_pos_iff.1 hw0
                    have hrm : x.tmod 64 = x % 64 := Int.tmod_eq_emod_of_nonneg (by omega)
                    have hcv : IntKind.i64.wrap (x % 64) = x % 64 := by rw [IntKind.wrap_i64]; omega
                    have htm2 : x % 64 % (ws.length : Int) = (j : Int) := by rw [← htm, Int.tmod_eq_emod_of_nonneg (by omega)]
                    clear hwr hwB hwj
                    go_wp2_with (go_at_call 8; refine (isO x FX.out hI _).mono ?_; rintro e w' ⟨rfl, rfl⟩)
                    refine wp_region_still_tail 17 (by kernel_rfl) (by kernel_rfl) ?_
                    simp only [List.take_succ_cons, List.take_zero, List.drop_succ_cons, List.drop_zero]
                    iterate 17 still_step
                    refine wpStill_nil ?_
                    change wpList _ _ _ _ _ wr.drew
                    go_wp2_with fail
                    go_roundw
                    case rel => exact ⟨k + 1, by go_num, by omega, Lib.hid (FIN.out wr HK7.out HR7.out HF7.out _ rfl).1.drew, Lib.hid (FIN.out wr HK7.out HR7.out HF7.out _ rfl).2.1.drew, Lib.hid (owns_drew' (FIN.out wr HK7.out HR7.out HF7.out _ rfl).2.2)⟩
                    case measure => simp [intOf]; omega
                  · as_aux_lemma =>
                    have hw0I : ¬ (0 : Int) < (ws.length : Int) := by omega
                    have hy : bits .or .u64 x 1 = fixF ws x := by unfold fixF; rw [if_neg (fun h => hw0 (List.length_pos_iff.2 h.2))]; rfl
                    go_wp2_with (go_at_call 8; refine (isO x FX.out hI _).mono ?_; rintro e w' ⟨rfl, rfl⟩)
                    go_roundw
                    case rel => exact ⟨k + 1, by go_num, by omega, Lib.hid (FIN.out wr HK7.out HR7.out HF7.out _ rfl).1, Lib.hid (FIN.out wr HK7.out HR7.out HF7.out _ rfl).2.1, Lib.hid (FIN.out wr HK7.out HR7.out HF7.out _ rfl).2.2⟩
                    case measure => simp [intOf]; omega
                · as_aux_lemma =>
                  have hy : bits .or .u64 x 1 = fixF ws x := by unfold fixF; rw [if_neg (fun h => by rw [hI] at h; cases h.1)]; rfl
                  go_wp2_with (go_at_call 8; refine (isO x FX.out hI _).mono ?_; rintro e w' ⟨rfl, rfl⟩)
                  go_roundw
                  case rel => exact ⟨k + 1, by go_num, by omega, Lib.hid (FIN.out wr HK7.out HR7.out HF7.out _ rfl).1, Lib.hid (FIN.out wr HK7.out HR7.out HF7.out _ rfl).2.1, Lib.hid (FIN.out wr HK7.out HR7.out HF7.out _ rfl).2.2⟩
                  case measure => simp [intOf]; omega
              · obtain rfl : k = q.fs.length := by omega
                as_aux_lemma =>
                obtain ⟨ys, hys⟩ : ∃ ys, q.fs.map (fixF ws) = ys := ⟨_, rfl⟩
                have hyl : q.fs.length = ys.length := by rw [← hys]; simp
                have FA := Lib.hid (HQ.out.fixAll (by rw [Int.zero_mul]; exact Int.le_refl 0) HFB.out QO.out.fit)
                rw [hys] at FA
                have HF8 := HF7.out
                rw [fixTo_all, hys] at HF8
                have HR8 := HR7.out
                rw [hyl] at HF8 HR8 hlen ⊢
                have VW := Lib.hid (HK.out.up.size)
                have OF8 : Hid (ownF V (.slice wa ws.length cw) ⟨q.k, q.t, ba, bc, ys, q.s⟩ wr) := Lib.hid ⟨owns_base HF8 (fun g hg => by have := (HF8.lt g hg).1; have := VW.out; omega), fun g hg e => by have h1 := (HF8.lt g hg).1; have h2 := (HK.out.ow.lt g e).2; omega⟩
                have R8 := Lib.hid HR8
                have BO := Lib.hid (show wo.heap.size ≤ bo from HBO.out)
                clear HF8 HR8 hys
                obtain ⟨c0, c1, c2, c3⟩ := cells4O R8.out
                obtain ⟨d0, d1, d2, d3⟩ := cells4O HK7.out.hp
                have d4 : wr.cell? ⟨b1, 0, none⟩ = some (.pointer (some ⟨p, 0, none⟩)) := (HK7.out.os.two.cell 0).trans rfl
                go_wp2_with fail
                clear c0 c1 c2 c3 d0 d1 d2 d3 d4
                refine (put_both HK7.out HOB.out ⟨q.k, q.t, ba, bc, ys, q.s⟩ OF8.out FA.out.1 FA.out.2).mono ?_
                rintro e w9 ⟨A9, g0, g1, g2, g3, w0, xb, rfl, hk9, hs9, hr9⟩
                have K9 := Lib.hid hk9
                have offF := Lib.hid (fun g (hg : V.heap.size ≤ g) => show ¬ F g from fun hf => by have := HK.out.fv g hf; omega)
                have R9 := Lib.hid (R8.out.upon hs9.upon (offF.out bo (by have := BO.out; have := VW.out; omega)))
                have OF9 := Lib.hid (OF8.out.turn hs9.upon (fun g hg => offF.out g (OF8.out.1.lt g hg).1))
                obtain ⟨gb, hgb⟩ : ∃ gb, w9.heap.size = gb := ⟨_, rfl⟩
                obtain ⟨w10, hw10⟩ : ∃ W, w9.alloc (.cells #[.int .i64 g0, .int .i64 g1, .int .i64 g2, .int .i64 g3] 33) = W := ⟨_, rfl⟩
                have K10 := Lib.hid (show OkO w V p p2 b1 hb F A9 (N : Int) tp (.slice wa ws.length cw) (.slice ha qs.length ch) ws qs w10 by rw [← hw10]; exact K9.out.al _)
                have R10 := Lib.hid (show rowAt w10 bo 35 [.int .i64 q.k, .int .i64 q.t, .slice ba ys.length bc, .string q.s] by rw [← hw10]; exact R9.out.alloc _)
                have G10 := Lib.hid (show rowAt w10 gb 33 [.int .i64 g0, .int .i64 g1, .int .i64 g2, .int .i64 g3] by rw [← hw10, ← hgb]; exact rowAt.made _ _ _)
                have OF10 := Lib.hid (show ownF V (.slice wa ws.length cw) ⟨q.k, q.t, ba, bc, ys, q.s⟩ w10 by rw [← hw10]; exact OF9.out.turn (Upon.alloc (fun _ => False) _ _) (fun _ _ t => t))
                have NGB := Lib.hid (show hb ≠ gb from by have := K9.out.hp.lt; omega)
                have NM9 := Lib.hid (show 0 ≤ tp ∧ tp ≤ (N : Int) ∧ (N : Int) ≤ 2000 from by have := NM.out; omega)
                have PR := Lib.hid hr9
                clear hk9 hs9 hr9
                go_wp2_with fail
                clear hw10 hgb
                obtain ⟨qw, hqw⟩ : ∃ n, wordsR q.k q.t ys.length q.s.size = n := ⟨_, rfl⟩
                have QW := Lib.hid hqw
                have hr9 := PR.out
                unfold PutR at hr9
                simp only [hqw] at hr9
                clear hqw
                have hnm := NM9.out
                rcases hr9 with ⟨rfl, hm, hwd, rfl, rfl, rfl, htp, hpl, ho9⟩ | ⟨rfl, hm, rfl⟩
                · as_aux_lemma =>
                  have HM := Lib.hid hm
                  have O9 := Lib.hid ho9
                  have PW := Lib.hid hpl
                  have hz1 : IntKind.i64.wrap (tp + (qw : Int)) = g3 := by rw [IntKind.wrap_i64]; omega
                  have hz2 : g3 ≤ (N : Int) := by omega
                  have hz3 : IntKind.i64.wrap g3 = g3 := by rw [IntKind.wrap_i64]; omega
                  have hz4 : (g3 != g3) = false := by simp
                  have hz5 : (g3 != IntKind.i64.wrap (tp + (qw : Int))) = false := by rw [hz1]; simp
                  have hpz : (w0 != w0) = false := by simp
                  clear hm ho9 hpl
                  refine wp_region_held_drew (S := fun w' => w'.cell? ⟨bo, 0, none⟩ = some (.int .i64 q.k) ∧ w'.cell? ⟨bo, 1, none⟩ = some (.int .i64 q.t) ∧ w'.cell? ⟨bo, 2, none⟩ = some (.slice ba ys.length bc) ∧ w'.cell? ⟨bo, 3, none⟩ = some (.string q.s) ∧ w'.cell? ⟨hb, 3, none⟩ = some (.int .i64 tp) ∧ w'.cell? ⟨gb, 3, none⟩ = some (.int .i64 g3)) (by kernel_rfl) (cellsO K10.out.drew R10.out.drew G10.out.drew) (fun hH0 => ?_)
                  refine wpAnyH_take (i := 0) (oi := _) (v := ?_) (by simp only [List.getElem?_toArray, List.getElem?_cons_succ, List.getElem?_cons_zero]; rfl) (by kernel_rfl) (by kernel_rfl) (by kernel_rfl) (by exact fun _ _ _ h => h) (Or.inl ⟨by rfl, ?_⟩) (by assumption) ?_
                  rotate_left
                  · (intro w hSw; (try dsimp only at hSw); go_simp; try with_reducible rfl)
                  try simp only [Act.put, List.setIfInBounds_toArray, List.set_cons_zero, List.set_cons_succ]
                  refine wpAnyH_take (i := 1) (oi := _) (v := ?_) (by simp only [List.getElem?_toArray, List.getElem?_cons_succ, List.getElem?_cons_zero]; rfl) (by kernel_rfl) (by kernel_rfl) (by kernel_rfl) (by exact fun _ _ _ h => h) (Or.inl ⟨by rfl, ?_⟩) (by assumption) ?_
                  rotate_left
                  · (intro w hSw; (try dsimp only at hSw); go_simp; try with_reducible rfl)
                  try simp only [Act.put, List.setIfInBounds_toArray, List.set_cons_zero, List.set_cons_succ]
                  refine wpAnyH_ready (rs := [2]) (by kernel_rfl) (by simp) ?_
                  refine AllReadyH.cons rfl (fun K hK => ?_) AllReadyH.nil
                  go_simp
                  refine (may_is ⟨q.k, q.t, ba, bc, ys, q.s⟩ _ HM.out).mono ?_
                  rintro e w11 ⟨rfl, hb11⟩
                  have K11 := Lib.hid (K10.out.drew.on hb11)
                  have R11 := Lib.hid (R10.out.drew.below hb11 R10.out.lt)
                  have G11 := Lib.hid (G10.out.drew.below hb11 G10.out.lt)
                  have OF11 := Lib.hid (OF10.out.drew.turn (Upon.of_below (S := fun _ => False) hb11) (fun _ _ t => t))
                  clear hb11
                  go_wp2_with fail
                  refine hK.out _ _ (cellsO K11.out R11.out G11.out) (fun hH1 => ?_)
                  clear hK K hH0
                  try simp only [Act.put, List.setIfInBounds_toArray, List.set_cons_zero, List.set_cons_succ]
                  refine wpAnyH_take (i := 3) (oi := _) (v := ?_) (by simp only [List.getElem?_toArray, List.getElem?_cons_succ, List.getElem?_cons_zero]; rfl) (by kernel_rfl) (by kernel_rfl) (by kernel_rfl) (by exact fun _ _ _ h => h) (Or.inl ⟨by rfl, ?_⟩) (by assumption) ?_
                  rotate_left
                  · (intro w hSw; (try dsimp only at hSw); go_simp; try with_reducible rfl)
                  try simp only [Act.put, List.setIfInBounds_toArray, List.set_cons_zero, List.set_cons_succ]
                  refine wpAnyH_take (i := 4) (oi := _) (v := ?_) (by simp only [List.getElem?_toArray, List.getElem?_cons_succ, List.getElem?_cons_zero]; rfl) (by kernel_rfl) (by kernel_rfl) (by kernel_rfl) (by exact fun _ _ _ h => h) (Or.inl ⟨by rfl, ?_⟩) (by assumption) ?_
                  rotate_left
                  · (intro w hSw; (try dsimp only at hSw); go_simp; try with_reducible rfl)
                  try simp only [Act.put, List.setIfInBounds_toArray, List.set_cons_zero, List.set_cons_succ]
                  refine wpAnyH_take (i := 5) (oi := _) (v := ?_) (by simp only [List.getElem?_toArray, List.getElem?_cons_succ, List.getElem?_cons_zero]; rfl) (by kernel_rfl) (by kernel_rfl) (by kernel_rfl) (by exact fun _ _ _ h => h) (Or.inl ⟨by rfl, ?_⟩) (by assumption) ?_
                  rotate_left
                  · (intro w hSw; (try dsimp only at hSw); go_simp; try with_reducible rfl)
                  try simp only [Act.put, List.setIfInBounds_toArray, List.set_cons_zero, List.set_cons_succ]
                  refine wpAnyH_take (i := 6) (oi := _) (v := ?_) (by simp only [List.getElem?_toArray, List.getElem?_cons_succ, List.getElem?_cons_zero]; rfl) (by kernel_rfl) (by kernel_rfl) (by kernel_rfl) (by exact fun _ _ _ h => h) (Or.inl ⟨by rfl, ?_⟩) (by assumption) ?_
                  rotate_left
                  · (intro w hSw; (try dsimp only at hSw); go_simp; try with_reducible rfl)
                  try simp only [Act.put, List.setIfInBounds_toArray, List.set_cons_zero, List.set_cons_succ]
                  refine wpAnyH_take (i := 9) (oi := _) (v := ?_) (by simp only [List.getElem?_toArray, List.getElem?_cons_succ, List.getElem?_cons_zero]; rfl) (by kernel_rfl) (by kernel_rfl) (by kernel_rfl) (by exact fun _ _ _ h => h) (Or.inl ⟨by rfl, ?_⟩) (by assumption) ?_
                  rotate_left
                  · (intro w hSw; (try dsimp only at hSw); go_simp; try with_reducible rfl)
                  try simp only [Act.put, List.setIfInBounds_toArray, List.set_cons_zero, List.set_cons_succ]
                  refine wpAnyH_ready (rs := [7]) (by kernel_rfl) (by simp) ?_
                  refine AllReadyH.cons rfl (fun K hK => ?_) AllReadyH.nil
                  go_simp
                  refine (rwords_isO ⟨q.k, q.t, ba, bc, ys, q.s⟩ _ QW.out).mono ?_
                  rintro e w12 ⟨rfl, hb12⟩
                  have K12 := Lib.hid (K11.out.on hb12)
                  have R12 := Lib.hid (R11.out.below hb12 R11.out.lt)
                  have G12 := Lib.hid (G11.out.below hb12 G11.out.lt)
                  have OF12 := Lib.hid (OF11.out.turn (Upon.of_below (S := fun _ => False) hb12) (fun _ _ t => t))
                  clear hb12
                  go_wp2_with fail
                  refine hK.out _ _ (cellsO K12.out R12.out G12.out) (fun hH2 => ?_)
                  clear hK K hH1
                  try simp only [Act.put, List.setIfInBounds_toArray, List.set_cons_zero, List.set_cons_succ]
                  refine wpAnyH_take (i := 8) (oi := _) (v := ?_) (by simp only [List.getElem?_toArray, List.getElem?_cons_succ, List.getElem?_cons_zero]; rfl) (by kernel_rfl) (by kernel_rfl) (by kernel_rfl) (by exact fun _ _ _ h => h) (Or.inl ⟨by rfl, ?_⟩) (by assumption) ?_
                  rotate_left
                  · (intro w hSw; (try dsimp only at hSw); go_simp; try with_reducible rfl)
                  try simp only [Act.put, List.setIfInBounds_toArray, List.set_cons_zero, List.set_cons_succ]
                  refine wpAnyH_take (i := 10) (oi := _) (v := ?_) (by simp only [List.getElem?_toArray, List.getElem?_cons_succ, List.getElem?_cons_zero]; rfl) (by kernel_rfl) (by kernel_rfl) (by kernel_rfl) (by exact fun _ _ _ h => h) (Or.inl ⟨by rfl, ?_⟩) (by assumption) ?_
                  rotate_left
                  · (intro w hSw; (try dsimp only at hSw); go_simp; try with_reducible rfl)
                  try simp only [Act.put, List.setIfInBounds_toArray, List.set_cons_zero, List.set_cons_succ]
                  refine wpAnyH_take (i := 11) (oi := _) (v := ?_) (by simp only [List.getElem?_toArray, List.getElem?_cons_succ, List.getElem?_cons_zero]; rfl) (by kernel_rfl) (by kernel_rfl) (by kernel_rfl) (by exact fun _ _ _ h => h) (Or.inl ⟨by rfl, ?_⟩) (by assumption) ?_
                  rotate_left
                  · (intro w hSw; (try dsimp only at hSw); go_simp; try with_reducible rfl)
                  try simp only [Act.put, List.setIfInBounds_toArray, List.set_cons_zero, List.set_cons_succ]
                  refine wpAnyH_take (i := 12) (oi := _) (v := ?_) (by simp only [List.getElem?_toArray, List.getElem?_cons_succ, List.getElem?_cons_zero]; rfl) (by kernel_rfl) (by kernel_rfl) (by kernel_rfl) (by exact fun _ _ _ h => h) (Or.inl ⟨by rfl, ?_⟩) (by assumption) ?_
                  rotate_left
                  · (intro w hSw; (try dsimp only at hSw); go_simp; try with_reducible rfl)
                  try simp only [Act.put, List.setIfInBounds_toArray, List.set_cons_zero, List.set_cons_succ]
                  refine wpAnyH_done (by kernel_rfl) ?_ _
                  go_wp2_with fail
                  as_aux_lemma =>
                  refine wp_region_held_drew (S := fun w' => w'.cell? ⟨bo, 0, none⟩ = some (.int .i64 q.k) ∧ w'.cell? ⟨bo, 1, none⟩ = some (.int .i64 q.t) ∧ w'.cell? ⟨bo, 2, none⟩ = some (.slice ba ys.length bc) ∧ w'.cell? ⟨bo, 3, none⟩ = some (.string q.s) ∧ w'.cell? ⟨hb, 3, none⟩ = some (.int .i64 tp) ∧ w'.cell? ⟨gb, 3, none⟩ = some (.int .i64 g3)) (by kernel_rfl) (cellsO K12.out.drew R12.out.drew G12.out.drew) (fun hH0 => ?_)
                  refine wpAnyH_take (i := 0) (oi := _) (v := ?_) (by simp only [List.getElem?_toArray, List.getElem?_cons_succ, List.getElem?_cons_zero]; rfl) (by kernel_rfl) (by kernel_rfl) (by kernel_rfl) (by exact fun _ _ _ h => h) (Or.inl ⟨by rfl, ?_⟩) (by assumption) ?_
                  rotate_left
                  · (intro w hSw; (try dsimp only at hSw); go_simp; try with_reducible rfl)
                  try simp only [Act.put, List.setIfInBounds_toArray, List.set_cons_zero, List.set_cons_succ]
                  refine wpAnyH_take (i := 1) (oi := _) (v := ?_) (by simp only [List.getElem?_toArray, List.getElem?_cons_succ, List.getElem?_cons_zero]; rfl) (by kernel_rfl) (by kernel_rfl) (by kernel_rfl) (by exact fun _ _ _ h => h) (Or.inl ⟨by rfl, ?_⟩) (by assumption) ?_
                  rotate_left
                  · (intro w hSw; (try dsimp only at hSw); go_simp; try with_reducible rfl)
                  try simp only [Act.put, List.setIfInBounds_toArray, List.set_cons_zero, List.set_cons_succ]
                  refine wpAnyH_take (i := 2) (oi := _) (v := ?_) (by simp only [List.getElem?_toArray, List.getElem?_cons_succ, List.getElem?_cons_zero]; rfl) (by kernel_rfl) (by kernel_rfl) (by kernel_rfl) (by exact fun _ _ _ h => h) (Or.inl ⟨by rfl, ?_⟩) (by assumption) ?_
                  rotate_left
                  · (intro w hSw; (try dsimp only at hSw); go_simp; try with_reducible rfl)
                  try simp only [Act.put, List.setIfInBounds_toArray, List.set_cons_zero, List.set_cons_succ]
                  refine wpAnyH_ready (rs := [3]) (by kernel_rfl) (by simp) ?_
                  refine AllReadyH.cons rfl (fun K hK => ?_) AllReadyH.nil
                  go_simp
                  refine (place_isO tp w0 PW.out (by have := NM9.out; omega) _).mono ?_
                  rintro e w13 ⟨rfl, rfl⟩
                  go_wp2_with fail
                  refine hK.out _ _ (cellsO K12.out.drew R12.out.drew G12.out.drew) (fun hH1 => ?_)
                  clear hK K hH0
                  try simp only [Act.put, List.setIfInBounds_toArray, List.set_cons_zero, List.set_cons_succ]
                  refine wpAnyH_take (i := 4) (oi := _) (v := .bool false) (by simp only [List.getElem?_toArray, List.getElem?_cons_succ, List.getElem?_cons_zero]; rfl) (by kernel_rfl) (by kernel_rfl) (by kernel_rfl) (by exact fun _ _ _ h => h) (Or.inl ⟨by rfl, ?_⟩) (by assumption) ?_
                  · (intro w hSw; (try dsimp only at hSw); go_simp; (try simp [hpz]))
                  try simp only [Act.put, List.setIfInBounds_toArray, List.set_cons_zero, List.set_cons_succ]
                  refine wpAnyH_take (i := 5) (oi := _) (v := ?_) (by simp only [List.getElem?_toArray, List.getElem?_cons_succ, List.getElem?_cons_zero]; rfl) (by kernel_rfl) (by kernel_rfl) (by kernel_rfl) (by exact fun _ _ _ h => h) (Or.inl ⟨by rfl, ?_⟩) (by assumption) ?_
                  rotate_left
                  · (intro w hSw; (try dsimp only at hSw); go_simp; try with_reducible rfl)
                  try simp only [Act.put, List.setIfInBounds_toArray, List.set_cons_zero, List.set_cons_succ]
                  refine wpAnyH_take (i := 6) (oi := _) (v := ?_) (by simp only [List.getElem?_toArray, List.getElem?_cons_succ, List.getElem?_cons_zero]; rfl) (by kernel_rfl) (by kernel_rfl) (by kernel_rfl) (by exact fun _ _ _ h => h) (Or.inl ⟨by rfl, ?_⟩) (by assumption) ?_
                  rotate_left
                  · (intro w hSw; (try dsimp only at hSw); go_simp; try with_reducible rfl)
                  try simp only [Act.put, List.setIfInBounds_toArray, List.set_cons_zero, List.set_cons_succ]
                  refine wpAnyH_take (i := 7) (oi := _) (v := ?_) (by simp only [List.getElem?_toArray, List.getElem?_cons_succ, List.getElem?_cons_zero]; rfl) (by kernel_rfl) (by kernel_rfl) (by kernel_rfl) (by exact fun _ _ _ h => h) (Or.inl ⟨by rfl, ?_⟩) (by assumption) ?_
                  rotate_left
                  · (intro w hSw; (try dsimp only at hSw); go_simp; try with_reducible rfl)
                  try simp only [Act.put, List.setIfInBounds_toArray, List.set_cons_zero, List.set_cons_succ]
                  refine wpAnyH_take (i := 8) (oi := _) (v := ?_) (by simp only [List.getElem?_toArray, List.getElem?_cons_succ, List.getElem?_cons_zero]; rfl) (by kernel_rfl) (by kernel_rfl) (by kernel_rfl) (by exact fun _ _ _ h => h) (Or.inl ⟨by rfl, ?_⟩) (by assumption) ?_
                  rotate_left
                  · (intro w hSw; (try dsimp only at hSw); go_simp; try with_reducible rfl)
                  try simp only [Act.put, List.setIfInBounds_toArray, List.set_cons_zero, List.set_cons_succ]
                  refine wpAnyH_take (i := 9) (oi := _) (v := ?_) (by simp only [List.getElem?_toArray, List.getElem?_cons_succ, List.getElem?_cons_zero]; rfl) (by kernel_rfl) (by kernel_rfl) (by kernel_rfl) (by exact fun _ _ _ h => h) (Or.inl ⟨by rfl, ?_⟩) (by assumption) ?_
                  rotate_left
                  · (intro w hSw; (try dsimp only at hSw); go_simp; try with_reducible rfl)
                  try simp only [Act.put, List.setIfInBounds_toArray, List.set_cons_zero, List.set_cons_succ]
                  refine wpAnyH_take (i := 10) (oi := _) (v := ?_) (by simp only [List.getElem?_toArray, List.getElem?_cons_succ, List.getElem?_cons_zero]; rfl) (by kernel_rfl) (by kernel_rfl) (by kernel_rfl) (by exact fun _ _ _ h => h) (Or.inl ⟨by rfl, ?_⟩) (by assumption) ?_
                  rotate_left
                  · (intro w hSw; (try dsimp only at hSw); go_simp; try with_reducible rfl)
                  try simp only [Act.put, List.setIfInBounds_toArray, List.set_cons_zero, List.set_cons_succ]
                  refine wpAnyH_ready (rs := [11]) (by kernel_rfl) (by simp) ?_
                  refine AllReadyH.cons rfl (fun K hK => ?_) AllReadyH.nil
                  go_simp
                  refine (owords_isO ⟨q.k, q.t, ba, bc, ys, q.s⟩ _ QW.out).mono ?_
                  rintro e w14 ⟨rfl, hb14⟩
                  have K14 := Lib.hid (K12.out.drew.on hb14)
                  have R14 := Lib.hid (R12.out.drew.below hb14 R12.out.lt)
                  have G14 := Lib.hid (G12.out.drew.below hb14 G12.out.lt)
                  have OF14 := Lib.hid (OF12.out.drew.turn (Upon.of_below (S := fun _ => False) hb14) (fun _ _ t => t))
                  clear hb14
                  go_wp2_with fail
                  refine hK.out _ _ (cellsO K14.out R14.out G14.out) (fun hH2 => ?_)
                  clear hK K hH1
                  try simp only [Act.put, List.setIfInBounds_toArray, List.set_cons_zero, List.set_cons_succ]
                  refine wpAnyH_take (i := 12) (oi := _) (v := ?_) (by simp only [List.getElem?_toArray, List.getElem?_cons_succ, List.getElem?_cons_zero]; rfl) (by kernel_rfl) (by kernel_rfl) (by kernel_rfl) (by exact fun _ _ _ h => h) (Or.inl ⟨by rfl, ?_⟩) (by assumption) ?_
                  rotate_left
                  · (intro w hSw; (try dsimp only at hSw); go_simp; try with_reducible rfl)
                  try simp only [Act.put, List.setIfInBounds_toArray, List.set_cons_zero, List.set_cons_succ]
                  refine wpAnyH_take (i := 13) (oi := _) (v := ?_) (by simp only [List.getElem?_toArray, List.getElem?_cons_succ, List.getElem?_cons_zero]; rfl) (by kernel_rfl) (by kernel_rfl) (by kernel_rfl) (by exact fun _ _ _ h => h) (Or.inl ⟨by rfl, ?_⟩) (by assumption) ?_
                  rotate_left
                  · (intro w hSw; (try dsimp only at hSw); go_simp; try with_reducible rfl)
                  try simp only [Act.put, List.setIfInBounds_toArray, List.set_cons_zero, List.set_cons_succ]
                  refine wpAnyH_take (i := 14) (oi := _) (v := ?_) (by simp only [List.getElem?_toArray, List.getElem?_cons_succ, List.getElem?_cons_zero]; rfl) (by kernel_rfl) (by kernel_rfl) (by kernel_rfl) (by exact fun _ _ _ h => h) (Or.inl ⟨by rfl, ?_⟩) (by assumption) ?_
                  rotate_left
                  · (intro w hSw; (try dsimp only at hSw); go_simp; try with_reducible rfl)
                  try simp only [Act.put, List.setIfInBounds_toArray, List.set_cons_zero, List.set_cons_succ]
                  refine wpAnyH_done (by kernel_rfl) ?_ _
                  obtain ⟨c0, c1, c2, c3⟩ := cells4O R14.out
                  obtain ⟨x0, x1, x2, x3⟩ := cells4O G14.out
                  obtain ⟨d0, d1, d2, d3⟩ := cells4O K14.out.hp
                  have f0 := K14.out.hp.free 0
                  have f1 := K14.out.hp.free 1
                  have f2 := K14.out.hp.free 2
                  have f3 := K14.out.hp.free 3
                  have lt14 := K14.out.hp.lt
                  obtain ⟨W15, hW15⟩ : ∃ W, (((w14.setCell ⟨hb, 0, none⟩ (.int .i64 3)).setCell ⟨hb, 1, none⟩ (.int .i64 (N : Int))).setCell ⟨hb, 2, none⟩ (.int .i64 0)).setCell ⟨hb, 3, none⟩ (.int .i64 g3) = W := ⟨_, rfl⟩
                  have u15 : Upon (fun k => k = hb) w14 W15 := by rw [← hW15]; exact uponO4 _ _ _ _ _ _ _ _ _ _
                  have K15 := Lib.hid (show OkO w V p p2 b1 hb F A9 (N : Int) g3 (.slice wa ws.length cw) (.slice ha qs.length ch) ws qs W15 by rw [← hW15]; exact K14.out.heap g3)
                  have hvb := HK.out.hv
                  have R15 := Lib.hid (R14.out.upon u15 (by have := BO.out; have := VW.out; omega))
                  have OF15 := Lib.hid (OF14.out.turn u15 (fun g hg e => by have := (OF14.out.1.lt g hg).1; omega))
                  clear u15 hvb
                  go_wp2_with fail
                  as_aux_lemma =>
                  clear c0 c1 c2 c3 x0 x1 x2 x3 d0 d1 d2 d3 f0 f1 f2 f3 lt14 hW15 hz1 hz2 hz3 hz4 hz5 hpz
                  obtain ⟨c0, c1, c2, c3⟩ := cells4O R15.out
                  have T0 : TwO w V p p2 b1 hb F A9 (N : Int) g3 (.slice wa ws.length cw) (.slice ha qs.length ch) ws qs ⟨q.k, q.t, ba, bc, ys, q.s⟩ [(bo, 35, obCs ⟨q.k, q.t, ba, bc, ys, q.s⟩)] W15 := ⟨K15.out, OF15.out, fun r hr => by
                    rw [List.mem_singleton.1 hr]
                    exact ⟨R15.out, fun e => by have := (HK.out.ow.lt _ e).2; have := BO.out; simp at *; omega, fun e => by have := (HK.out.oh.lt _ e).2; have := BO.out; simp at *; omega, by have := BO.out; have := VW.out; show V.heap.size ≤ bo; omega⟩⟩
                  have hw10 : ws.length ≤ 40 := by omega
                  have hq10 : qs.length ≤ 40 := by have := HQ.out.len; omega
                  have hfl := (objs_numsO HK.out.os.held.ok HOB.out).2.2.2.2
                  have BQ := Lib.hid (show BkO (0 * (N : Int)) (obs ++ [obO ⟨q.k, q.t, ba, bc, ys, q.s⟩]) (ws ++ [w0]) (qs ++ [⟨q.k, q.t, ba, bc, ys, q.s⟩]) from HQ.out.snoc (by rw [Int.zero_mul]; exact Int.le_refl 0) HFB.out _ (by rw [← PW.out, Int.zero_mul, Int.zero_add, ← hfl]))
                  have LW := Lib.hid (show (ws ++ [w0]).length ≤ i + 1 by have := HI.out; simp; omega)
                  clear hfl
                  go_region_held3 (fun w' => w'.cell? ⟨bo, 0, none⟩ = some (.int .i64 q.k) ∧ w'.cell? ⟨bo, 1, none⟩ = some (.int .i64 q.t) ∧ w'.cell? ⟨bo, 2, none⟩ = some (.slice ba ys.length bc) ∧ w'.cell? ⟨bo, 3, none⟩ = some (.string q.s))
                    (first | exact keepO (q := ⟨q.k, q.t, ba, bc, ys, q.s⟩) (hT2) (by simp) | exact keepO (q := ⟨q.k, q.t, ba, bc, ys, q.s⟩) ((hT2).drew) (by simp) | exact keepO (q := ⟨q.k, q.t, ba, bc, ys, q.s⟩) ((hT2).alloc _ _) (by simp) | exact keepO (q := ⟨q.k, q.t, ba, bc, ys, q.s⟩) (((hT2).alloc _ _).drew) (by simp) | exact keepO (q := ⟨q.k, q.t, ba, bc, ys, q.s⟩) (((hT2).drew).alloc _ _) (by simp) | exact keepO (q := ⟨q.k, q.t, ba, bc, ys, q.s⟩) ((((hT2).drew).alloc _ _).drew) (by simp) | exact keepO (q := ⟨q.k, q.t, ba, bc, ys, q.s⟩) (((hT2).alloc _ _).alloc _ _) (by simp) | exact keepO (q := ⟨q.k, q.t, ba, bc, ys, q.s⟩) ((((hT2).alloc _ _).alloc _ _).drew) (by simp) | exact keepO (q := ⟨q.k, q.t, ba, bc, ys, q.s⟩) ((((hT2).alloc _ _).drew).alloc _ _) (by simp) | exact keepO (q := ⟨q.k, q.t, ba, bc, ys, q.s⟩) (((((hT2).alloc _ _).drew).alloc _ _).drew) (by simp) | exact keepO (q := ⟨q.k, q.t, ba, bc, ys, q.s⟩) (((((hT2).drew).alloc _ _).alloc _ _).drew) (by simp) | exact keepO (q := ⟨q.k, q.t, ba, bc, ys, q.s⟩) (hT1) (by simp) | exact keepO (q := ⟨q.k, q.t, ba, bc, ys, q.s⟩) ((hT1).drew) (by simp) | exact keepO (q := ⟨q.k, q.t, ba, bc, ys, q.s⟩) ((hT1).alloc _ _) (by simp) | exact keepO (q := ⟨q.k, q.t, ba, bc, ys, q.s⟩) (((hT1).alloc _ _).drew) (by simp) | exact keepO (q := ⟨q.k, q.t, ba, bc, ys, q.s⟩) (((hT1).drew).alloc _ _) (by simp) | exact keepO (q := ⟨q.k, q.t, ba, bc, ys, q.s⟩) ((((hT1).drew).alloc _ _).drew) (by simp) | exact keepO (q := ⟨q.k, q.t, ba, bc, ys, q.s⟩) (((hT1).alloc _ _).alloc _ _) (by simp) | exact keepO (q := ⟨q.k, q.t, ba, bc, ys, q.s⟩) ((((hT1).alloc _ _).alloc _ _).drew) (by simp) | exact keepO (q := ⟨q.k, q.t, ba, bc, ys, q.s⟩) ((((hT1).alloc _ _).drew).alloc _ _) (by simp) | exact keepO (q := ⟨q.k, q.t, ba, bc, ys, q.s⟩) (((((hT1).alloc _ _).drew).alloc _ _).drew) (by simp) | exact keepO (q := ⟨q.k, q.t, ba, bc, ys, q.s⟩) (((((hT1).drew).alloc _ _).alloc _ _).drew) (by simp) | exact keepO (q := ⟨q.k, q.t, ba, bc, ys, q.s⟩) (T0) (by simp) | exact keepO (q := ⟨q.k, q.t, ba, bc, ys, q.s⟩) ((T0).drew) (by simp) | exact keepO (q := ⟨q.k, q.t, ba, bc, ys, q.s⟩) ((T0).alloc _ _) (by simp) | exact keepO (q := ⟨q.k, q.t, ba, bc, ys, q.s⟩) (((T0).alloc _ _).drew) (by simp) | exact keepO (q := ⟨q.k, q.t, ba, bc, ys, q.s⟩) (((T0).drew).alloc _ _) (by simp) | exact keepO (q := ⟨q.k, q.t, ba, bc, ys, q.s⟩) ((((T0).drew).alloc _ _).drew) (by simp) | exact keepO (q := ⟨q.k, q.t, ba, bc, ys, q.s⟩) (((T0).alloc _ _).alloc _ _) (by simp) | exact keepO (q := ⟨q.k, q.t, ba, bc, ys, q.s⟩) ((((T0).alloc _ _).alloc _ _).drew) (by simp) | exact keepO (q := ⟨q.k, q.t, ba, bc, ys, q.s⟩) ((((T0).alloc _ _).drew).alloc _ _) (by simp) | exact keepO (q := ⟨q.k, q.t, ba, bc, ys, q.s⟩) (((((T0).alloc _ _).drew).alloc _ _).drew) (by simp) | exact keepO (q := ⟨q.k, q.t, ba, bc, ys, q.s⟩) (((((T0).drew).alloc _ _).alloc _ _).drew) (by simp))
                    (first
                      | ((refine step_owO (by rfl) (.tmp 156) (.tmp 158) (by rfl) _ _ w0 (by (first | exact hT2 | exact (hT2).drew | exact (hT2).alloc _ _ | exact ((hT2).alloc _ _).drew | exact ((hT2).drew).alloc _ _ | exact (((hT2).drew).alloc _ _).drew | exact ((hT2).alloc _ _).alloc _ _ | exact (((hT2).alloc _ _).alloc _ _).drew | exact (((hT2).alloc _ _).drew).alloc _ _ | exact ((((hT2).alloc _ _).drew).alloc _ _).drew | exact ((((hT2).drew).alloc _ _).alloc _ _).drew | exact hT1 | exact (hT1).drew | exact (hT1).alloc _ _ | exact ((hT1).alloc _ _).drew | exact ((hT1).drew).alloc _ _ | exact (((hT1).drew).alloc _ _).drew | exact ((hT1).alloc _ _).alloc _ _ | exact (((hT1).alloc _ _).alloc _ _).drew | exact (((hT1).alloc _ _).drew).alloc _ _ | exact ((((hT1).alloc _ _).drew).alloc _ _).drew | exact ((((hT1).drew).alloc _ _).alloc _ _).drew | exact T0 | exact (T0).drew | exact (T0).alloc _ _ | exact ((T0).alloc _ _).drew | exact ((T0).drew).alloc _ _ | exact (((T0).drew).alloc _ _).drew | exact ((T0).alloc _ _).alloc _ _ | exact (((T0).alloc _ _).alloc _ _).drew | exact (((T0).alloc _ _).drew).alloc _ _ | exact ((((T0).alloc _ _).drew).alloc _ _).drew | exact ((((T0).drew).alloc _ _).alloc _ _).drew)) (by rfl) (by rfl) (by simp) hw10 ?_); intro v1 w1 hT1)
                      | ((refine step_ohO (by rfl) (.tmp 160) (.tmp 162) (by rfl) _ _ (by (first | exact hT2 | exact (hT2).drew | exact (hT2).alloc _ _ | exact ((hT2).alloc _ _).drew | exact ((hT2).drew).alloc _ _ | exact (((hT2).drew).alloc _ _).drew | exact ((hT2).alloc _ _).alloc _ _ | exact (((hT2).alloc _ _).alloc _ _).drew | exact (((hT2).alloc _ _).drew).alloc _ _ | exact ((((hT2).alloc _ _).drew).alloc _ _).drew | exact ((((hT2).drew).alloc _ _).alloc _ _).drew | exact hT1 | exact (hT1).drew | exact (hT1).alloc _ _ | exact ((hT1).alloc _ _).drew | exact ((hT1).drew).alloc _ _ | exact (((hT1).drew).alloc _ _).drew | exact ((hT1).alloc _ _).alloc _ _ | exact (((hT1).alloc _ _).alloc _ _).drew | exact (((hT1).alloc _ _).drew).alloc _ _ | exact ((((hT1).alloc _ _).drew).alloc _ _).drew | exact ((((hT1).drew).alloc _ _).alloc _ _).drew | exact T0 | exact (T0).drew | exact (T0).alloc _ _ | exact ((T0).alloc _ _).drew | exact ((T0).drew).alloc _ _ | exact (((T0).drew).alloc _ _).drew | exact ((T0).alloc _ _).alloc _ _ | exact (((T0).alloc _ _).alloc _ _).drew | exact (((T0).alloc _ _).drew).alloc _ _ | exact ((((T0).alloc _ _).drew).alloc _ _).drew | exact ((((T0).drew).alloc _ _).alloc _ _).drew)) (by rfl) (by rfl) (by simp) hq10 ?_); intro v2 w2 hT2))
                  all_goals
                    go_wp2_with fail
                    go_roundw
                    case rel => first | exact rel_inO (i := i + 1) hT2.k O9.out BQ.out LW.out (by omega) _ (by go_num) | exact rel_inO (i := i + 1) hT1.k O9.out BQ.out LW.out (by omega) _ (by go_num)
                    case measure => simp [intOf]; omega
                · as_aux_lemma =>
                  cases hh : headR q.k q.t ys.length q.s.size
                  · have HM := Lib.hid hh
                    clear hh hm
                    refine wp_region_held_drew (S := fun w' => w'.cell? ⟨bo, 0, none⟩ = some (.int .i64 q.k) ∧ w'.cell? ⟨bo, 1, none⟩ = some (.int .i64 q.t) ∧ w'.cell? ⟨bo, 2, none⟩ = some (.slice ba ys.length bc) ∧ w'.cell? ⟨bo, 3, none⟩ = some (.string q.s) ∧ w'.cell? ⟨hb, 3, none⟩ = some (.int .i64 tp) ∧ w'.cell? ⟨gb, 3, none⟩ = some (.int .i64 g3)) (by kernel_rfl) (cellsO K10.out.drew R10.out.drew G10.out.drew) (fun hH0 => ?_)
                    refine wpAnyH_take (i := 0) (oi := _) (v := ?_) (by simp only [List.getElem?_toArray, List.getElem?_cons_succ, List.getElem?_cons_zero]; rfl) (by kernel_rfl) (by kernel_rfl) (by kernel_rfl) (by exact fun _ _ _ h => h) (Or.inl ⟨by rfl, ?_⟩) (by assumption) ?_
                    rotate_left
                    · (intro w hSw; (try dsimp only at hSw); go_simp; try with_reducible rfl)
                    try simp only [Act.put, List.setIfInBounds_toArray, List.set_cons_zero, List.set_cons_succ]
                    refine wpAnyH_take (i := 1) (oi := _) (v := ?_) (by simp only [List.getElem?_toArray, List.getElem?_cons_succ, List.getElem?_cons_zero]; rfl) (by kernel_rfl) (by kernel_rfl) (by kernel_rfl) (by exact fun _ _ _ h => h) (Or.inl ⟨by rfl, ?_⟩) (by assumption) ?_
                    rotate_left
                    · (intro w hSw; (try dsimp only at hSw); go_simp; try with_reducible rfl)
                    try simp only [Act.put, List.setIfInBounds_toArray, List.set_cons_zero, List.set_cons_succ]
                    refine wpAnyH_ready (rs := [2]) (by kernel_rfl) (by simp) ?_
                    refine AllReadyH.cons rfl (fun K hK => ?_) AllReadyH.nil
                    go_simp
                    refine (may_is ⟨q.k, q.t, ba, bc, ys, q.s⟩ _ HM.out).mono ?_
                    rintro e w11 ⟨rfl, hb11⟩
                    have K11 := Lib.hid (K10.out.drew.on hb11)
                    have R11 := Lib.hid (R10.out.drew.below hb11 R10.out.lt)
                    have G11 := Lib.hid (G10.out.drew.below hb11 G10.out.lt)
                    have OF11 := Lib.hid (OF10.out.drew.turn (Upon.of_below (S := fun _ => False) hb11) (fun _ _ t => t))
                    clear hb11
                    go_wp2_with fail
                    refine hK.out _ _ (cellsO K11.out R11.out G11.out) (fun hH1 => ?_)
                    clear hK K hH0
                    try simp only [Act.put, List.setIfInBounds_toArray, List.set_cons_zero, List.set_cons_succ]
                    refine wpAnyH_take (i := 3) (oi := _) (v := ?_) (by simp only [List.getElem?_toArray, List.getElem?_cons_succ, List.getElem?_cons_zero]; rfl) (by kernel_rfl) (by kernel_rfl) (by kernel_rfl) (by exact fun _ _ _ h => h) (Or.inl ⟨by rfl, ?_⟩) (by assumption) ?_
                    rotate_left
                    · (intro w hSw; (try dsimp only at hSw); go_simp; try with_reducible rfl)
                    try simp only [Act.put, List.setIfInBounds_toArray, List.set_cons_zero, List.set_cons_succ]
                    refine wpAnyH_take (i := 4) (oi := _) (v := undef) (by simp only [List.getElem?_toArray, List.getElem?_cons_succ, List.getElem?_cons_zero]; rfl) (by kernel_rfl) (by kernel_rfl) (by kernel_rfl) (by exact fun _ _ _ h => h) (Or.inr ⟨by rfl, rfl⟩) (by assumption) ?_
                    try simp only [Act.put, List.setIfInBounds_toArray, List.set_cons_zero, List.set_cons_succ]
                    refine wpAnyH_take (i := 5) (oi := _) (v := undef) (by simp only [List.getElem?_toArray, List.getElem?_cons_succ, List.getElem?_cons_zero]; rfl) (by kernel_rfl) (by kernel_rfl) (by kernel_rfl) (by exact fun _ _ _ h => h) (Or.inr ⟨by rfl, rfl⟩) (by assumption) ?_
                    try simp only [Act.put, List.setIfInBounds_toArray, List.set_cons_zero, List.set_cons_succ]
                    refine wpAnyH_take (i := 6) (oi := _) (v := undef) (by simp only [List.getElem?_toArray, List.getElem?_cons_succ, List.getElem?_cons_zero]; rfl) (by kernel_rfl) (by kernel_rfl) (by kernel_rfl) (by exact fun _ _ _ h => h) (Or.inr ⟨by rfl, rfl⟩) (by assumption) ?_
                    try simp only [Act.put, List.setIfInBounds_toArray, List.set_cons_zero, List.set_cons_succ]
                    refine wpAnyH_take (i := 7) (oi := _) (v := undef) (by simp only [List.getElem?_toArray, List.getElem?_cons_succ, List.getElem?_cons_zero]; rfl) (by kernel_rfl) (by kernel_rfl) (by kernel_rfl) (by exact fun _ _ _ h => h) (Or.inr ⟨by rfl, rfl⟩) (by assumption) ?_
                    try simp only [Act.put, List.setIfInBounds_toArray, List.set_cons_zero, List.set_cons_succ]
                    refine wpAnyH_take (i := 8) (oi := _) (v := undef) (by simp only [List.getElem?_toArray, List.getElem?_cons_succ, List.getElem?_cons_zero]; rfl) (by kernel_rfl) (by kernel_rfl) (by kernel_rfl) (by exact fun _ _ _ h => h) (Or.inr ⟨by rfl, rfl⟩) (by assumption) ?_
                    try simp only [Act.put, List.setIfInBounds_toArray, List.set_cons_zero, List.set_cons_succ]
                    refine wpAnyH_take (i := 9) (oi := _) (v := undef) (by simp only [List.getElem?_toArray, List.getElem?_cons_succ, List.getElem?_cons_zero]; rfl) (by kernel_rfl) (by kernel_rfl) (by kernel_rfl) (by exact fun _ _ _ h => h) (Or.inr ⟨by rfl, rfl⟩) (by assumption) ?_
                    try simp only [Act.put, List.setIfInBounds_toArray, List.set_cons_zero, List.set_cons_succ]
                    refine wpAnyH_take (i := 10) (oi := _) (v := undef) (by simp only [List.getElem?_toArray, List.getElem?_cons_succ, List.getElem?_cons_zero]; rfl) (by kernel_rfl) (by kernel_rfl) (by kernel_rfl) (by exact fun _ _ _ h => h) (Or.inr ⟨by rfl, rfl⟩) (by assumption) ?_
                    try simp only [Act.put, List.setIfInBounds_toArray, List.set_cons_zero, List.set_cons_succ]
                    refine wpAnyH_take (i := 11) (oi := _) (v := ?_) (by simp only [List.getElem?_toArray, List.getElem?_cons_succ, List.getElem?_cons_zero]; rfl) (by kernel_rfl) (by kernel_rfl) (by kernel_rfl) (by exact fun _ _ _ h => h) (Or.inl ⟨by rfl, ?_⟩) (by assumption) ?_
                    rotate_left
                    · (intro w hSw; (try dsimp only at hSw); go_simp; try with_reducible rfl)
                    try simp only [Act.put, List.setIfInBounds_toArray, List.set_cons_zero, List.set_cons_succ]
                    refine wpAnyH_take (i := 12) (oi := _) (v := ?_) (by simp only [List.getElem?_toArray, List.getElem?_cons_succ, List.getElem?_cons_zero]; rfl) (by kernel_rfl) (by kernel_rfl) (by kernel_rfl) (by exact fun _ _ _ h => h) (Or.inl ⟨by rfl, ?_⟩) (by assumption) ?_
                    rotate_left
                    · (intro w hSw; (try dsimp only at hSw); go_simp; try with_reducible rfl)
                    try simp only [Act.put, List.setIfInBounds_toArray, List.set_cons_zero, List.set_cons_succ]
                    refine wpAnyH_done (by kernel_rfl) ?_ _
                    go_wp2_with fail
                    go_roundw
                    case rel => exact ⟨i + 1, A, tp, ws, qs, wa, cw, ha, ch, obs, by go_num, rfl, rfl, by omega, Lib.hid K11.out, HOB, HQ, Lib.hid (by have := HI.out; omega)⟩
                    case measure => simp [intOf]; omega
                  · have HM := Lib.hid hh
                    have hwd : ¬ ((qw : Int) ≤ (N : Int) - tp) := by rw [hh] at hm; simpa using hm
                    have hqb : (qw : Int) ≤ 500 := by rw [← QW.out]; exact words_few hh
                    have hz1 : IntKind.i64.wrap (tp + (qw : Int)) = tp + (qw : Int) := by rw [IntKind.wrap_i64]; omega
                    have hz2 : ¬ (tp + (qw : Int) ≤ (N : Int)) := by omega
                    clear hh hm
                    refine wp_region_held_drew (S := fun w' => w'.cell? ⟨bo, 0, none⟩ = some (.int .i64 q.k) ∧ w'.cell? ⟨bo, 1, none⟩ = some (.int .i64 q.t) ∧ w'.cell? ⟨bo, 2, none⟩ = some (.slice ba ys.length bc) ∧ w'.cell? ⟨bo, 3, none⟩ = some (.string q.s) ∧ w'.cell? ⟨hb, 3, none⟩ = some (.int .i64 tp) ∧ w'.cell? ⟨gb, 3, none⟩ = some (.int .i64 g3)) (by kernel_rfl) (cellsO K10.out.drew R10.out.drew G10.out.drew) (fun hH0 => ?_)
                    refine wpAnyH_take (i := 0) (oi := _) (v := ?_) (by simp only [List.getElem?_toArray, List.getElem?_cons_succ, List.getElem?_cons_zero]; rfl) (by kernel_rfl) (by kernel_rfl) (by kernel_rfl) (by exact fun _ _ _ h => h) (Or.inl ⟨by rfl, ?_⟩) (by assumption) ?_
                    rotate_left
                    · (intro w hSw; (try dsimp only at hSw); go_simp; try with_reducible rfl)
                    try simp only [Act.put, List.setIfInBounds_toArray, List.set_cons_zero, List.set_cons_succ]
                    refine wpAnyH_take (i := 1) (oi := _) (v := ?_) (by simp only [List.getElem?_toArray, List.getElem?_cons_succ, List.getElem?_cons_zero]; rfl) (by kernel_rfl) (by kernel_rfl) (by kernel_rfl) (by exact fun _ _ _ h => h) (Or.inl ⟨by rfl, ?_⟩) (by assumption) ?_
                    rotate_left
                    · (intro w hSw; (try dsimp only at hSw); go_simp; try with_reducible rfl)
                    try simp only [Act.put, List.setIfInBounds_toArray, List.set_cons_zero, List.set_cons_succ]
                    refine wpAnyH_ready (rs := [2]) (by kernel_rfl) (by simp) ?_
                    refine AllReadyH.cons rfl (fun K hK => ?_) AllReadyH.nil
                    go_simp
                    refine (may_is ⟨q.k, q.t, ba, bc, ys, q.s⟩ _ HM.out).mono ?_
                    rintro e w11 ⟨rfl, hb11⟩
                    have K11 := Lib.hid (K10.out.drew.on hb11)
                    have R11 := Lib.hid (R10.out.drew.below hb11 R10.out.lt)
                    have G11 := Lib.hid (G10.out.drew.below hb11 G10.out.lt)
                    have OF11 := Lib.hid (OF10.out.drew.turn (Upon.of_below (S := fun _ => False) hb11) (fun _ _ t => t))
                    clear hb11
                    go_wp2_with fail
                    refine hK.out _ _ (cellsO K11.out R11.out G11.out) (fun hH1 => ?_)
                    clear hK K hH0
                    try simp only [Act.put, List.setIfInBounds_toArray, List.set_cons_zero, List.set_cons_succ]
                    refine wpAnyH_take (i := 3) (oi := _) (v := ?_) (by simp only [List.getElem?_toArray, List.getElem?_cons_succ, List.getElem?_cons_zero]; rfl) (by kernel_rfl) (by kernel_rfl) (by kernel_rfl) (by exact fun _ _ _ h => h) (Or.inl ⟨by rfl, ?_⟩) (by assumption) ?_
                    rotate_left
                    · (intro w hSw; (try dsimp only at hSw); go_simp; try with_reducible rfl)
                    try simp only [Act.put, List.setIfInBounds_toArray, List.set_cons_zero, List.set_cons_succ]
                    refine wpAnyH_take (i := 4) (oi := _) (v := ?_) (by simp only [List.getElem?_toArray, List.getElem?_cons_succ, List.getElem?_cons_zero]; rfl) (by kernel_rfl) (by kernel_rfl) (by kernel_rfl) (by exact fun _ _ _ h => h) (Or.inl ⟨by rfl, ?_⟩) (by assumption) ?_
                    rotate_left
                    · (intro w hSw; (try dsimp only at hSw); go_simp; try with_reducible rfl)
                    try simp only [Act.put, List.setIfInBounds_toArray, List.set_cons_zero, List.set_cons_succ]
                    refine wpAnyH_take (i := 5) (oi := _) (v := ?_) (by simp only [List.getElem?_toArray, List.getElem?_cons_succ, List.getElem?_cons_zero]; rfl) (by kernel_rfl) (by kernel_rfl) (by kernel_rfl) (by exact fun _ _ _ h => h) (Or.inl ⟨by rfl, ?_⟩) (by assumption) ?_
                    rotate_left
                    · (intro w hSw; (try dsimp only at hSw); go_simp; try with_reducible rfl)
                    try simp only [Act.put, List.setIfInBounds_toArray, List.set_cons_zero, List.set_cons_succ]
                    refine wpAnyH_take (i := 6) (oi := _) (v := ?_) (by simp only [List.getElem?_toArray, List.getElem?_cons_succ, List.getElem?_cons_zero]; rfl) (by kernel_rfl) (by kernel_rfl) (by kernel_rfl) (by exact fun _ _ _ h => h) (Or.inl ⟨by rfl, ?_⟩) (by assumption) ?_
                    rotate_left
                    · (intro w hSw; (try dsimp only at hSw); go_simp; try with_reducible rfl)
                    try simp only [Act.put, List.setIfInBounds_toArray, List.set_cons_zero, List.set_cons_succ]
                    refine wpAnyH_take (i := 9) (oi := _) (v := ?_) (by simp only [List.getElem?_toArray, List.getElem?_cons_succ, List.getElem?_cons_zero]; rfl) (by kernel_rfl) (by kernel_rfl) (by kernel_rfl) (by exact fun _ _ _ h => h) (Or.inl ⟨by rfl, ?_⟩) (by assumption) ?_
                    rotate_left
                    · (intro w hSw; (try dsimp only at hSw); go_simp; try with_reducible rfl)
                    try simp only [Act.put, List.setIfInBounds_toArray, List.set_cons_zero, List.set_cons_succ]
                    refine wpAnyH_ready (rs := [7]) (by kernel_rfl) (by simp) ?_
                    refine AllReadyH.cons rfl (fun K hK => ?_) AllReadyH.nil
                    go_simp
                    refine (rwords_isO ⟨q.k, q.t, ba, bc, ys, q.s⟩ _ QW.out).mono ?_
                    rintro e w12 ⟨rfl, hb12⟩
                    have K12 := Lib.hid (K11.out.on hb12)
                    have R12 := Lib.hid (R11.out.below hb12 R11.out.lt)
                    have G12 := Lib.hid (G11.out.below hb12 G11.out.lt)
                    have OF12 := Lib.hid (OF11.out.turn (Upon.of_below (S := fun _ => False) hb12) (fun _ _ t => t))
                    clear hb12
                    go_wp2_with fail
                    refine hK.out _ _ (cellsO K12.out R12.out G12.out) (fun hH2 => ?_)
                    clear hK K hH1
                    try simp only [Act.put, List.setIfInBounds_toArray, List.set_cons_zero, List.set_cons_succ]
                    refine wpAnyH_take (i := 8) (oi := _) (v := ?_) (by simp only [List.getElem?_toArray, List.getElem?_cons_succ, List.getElem?_cons_zero]; rfl) (by kernel_rfl) (by kernel_rfl) (by kernel_rfl) (by exact fun _ _ _ h => h) (Or.inl ⟨by rfl, ?_⟩) (by assumption) ?_
                    rotate_left
                    · (intro w hSw; (try dsimp only at hSw); go_simp; try with_reducible rfl)
                    try simp only [Act.put, List.setIfInBounds_toArray, List.set_cons_zero, List.set_cons_succ]
                    refine wpAnyH_take (i := 10) (oi := _) (v := ?_) (by simp only [List.getElem?_toArray, List.getElem?_cons_succ, List.getElem?_cons_zero]; rfl) (by kernel_rfl) (by kernel_rfl) (by kernel_rfl) (by exact fun _ _ _ h => h) (Or.inl ⟨by rfl, ?_⟩) (by assumption) ?_
                    rotate_left
                    · (intro w hSw; (try dsimp only at hSw); go_simp; try with_reducible rfl)
                    try simp only [Act.put, List.setIfInBounds_toArray, List.set_cons_zero, List.set_cons_succ]
                    refine wpAnyH_take (i := 11) (oi := _) (v := ?_) (by simp only [List.getElem?_toArray, List.getElem?_cons_succ, List.getElem?_cons_zero]; rfl) (by kernel_rfl) (by kernel_rfl) (by kernel_rfl) (by exact fun _ _ _ h => h) (Or.inl ⟨by rfl, ?_⟩) (by assumption) ?_
                    rotate_left
                    · (intro w hSw; (try dsimp only at hSw); go_simp; try with_reducible rfl)
                    try simp only [Act.put, List.setIfInBounds_toArray, List.set_cons_zero, List.set_cons_succ]
                    refine wpAnyH_take (i := 12) (oi := _) (v := ?_) (by simp only [List.getElem?_toArray, List.getElem?_cons_succ, List.getElem?_cons_zero]; rfl) (by kernel_rfl) (by kernel_rfl) (by kernel_rfl) (by exact fun _ _ _ h => h) (Or.inl ⟨by rfl, ?_⟩) (by assumption) ?_
                    rotate_left
                    · (intro w hSw; (try dsimp only at hSw); go_simp; try with_reducible rfl)
                    try simp only [Act.put, List.setIfInBounds_toArray, List.set_cons_zero, List.set_cons_succ]
                    refine wpAnyH_done (by kernel_rfl) ?_ _
                    go_wp2_with fail
                    go_roundw
                    case rel => exact ⟨i + 1, A, tp, ws, qs, wa, cw, ha, ch, obs, by go_num, rfl, rfl, by omega, Lib.hid K12.out, HOB, HQ, Lib.hid (by have := HI.out; omega)⟩
                    case measure => simp [intOf]; omega
        · obtain rfl : i = l.length := by omega
          as_aux_lemma =>
          have NM := Lib.hid (objs_numsO HK.out.os.held.ok HOB.out)
          have HFB := Lib.hid (show (0 : Int) * (N : Int) + ((flat obs).length : Int) ≤ 4294967295 from by have := NM.out; omega)
          have hwl : ws.length ≤ 30 := by have := HI.out; omega
          have HQW := Lib.hid HQ.out.len
          obtain ⟨wo, rfl⟩ : ∃ wo : World, wo = wr := ⟨_, rfl⟩
          go_wp2_with fail
          go_loopw [20] (fun vj wr => ∃ (j : Nat) (A : Ar) (qs' : List ObE) (obs' : List Ob), vj = .int .i64 j ∧ j ≤ n2 ∧ qs'.length = qs.length ∧ Hid (OkO w V p p2 b1 hb F A (N : Int) tp (.slice wa ws.length cw) (.slice ha qs.length ch) ws qs' wr) ∧ Hid (A.objs 3 (N : Int) 0 tp = some obs') ∧ Hid (BkO (0 * (N : Int)) obs' ws qs')) (fun vj _ => n2 - (intOf vj).toNat)
          case atStart => exact ⟨0, A, qs, obs, rfl, Nat.zero_le _, rfl, HK, HOB, HQ⟩
          case round =>
            obtain ⟨j, A3, q3, obs3, rfl, hj, hq3, HK3, HO3, HQ3⟩ := hrel
            have NM3 := Lib.hid (objs_numsO HK3.out.os.held.ok HO3.out)
            have hf3 : (0 : Int) * (N : Int) + ((flat obs3).length : Int) ≤ 4294967295 := by have := NM3.out; omega
            have h03 : (0 : Int) ≤ 0 * (N : Int) := by omega
            have FB3 := Lib.hid hf3
            have H03 := Lib.hid h03
            clear hf3 h03
            by_cases hjl : j < n2
            · by_cases hw0 : 0 < ws.length
              · as_aux_lemma =>
                have hw0I : (0 : Int) < (ws.length : Int) := by omega
                have hw1 : ws.length ≠ 0 := by omega
                have hwne : ¬ ws = [] := List.length_pos_iff.1 hw0
                obtain ⟨sb, so, hva, hcs⟩ : ∃ b o, va = some ⟨b, o, none⟩ ∧ ∀ c, c < 3 → w.cell? ⟨b, o + (j * 3 + c), none⟩ = some (.int .u8 (f2 j c)) := by
                  rcases HS.out with h | ⟨b, o, e, h⟩
                  · omega
                  · refine ⟨b, o, e, fun c hc => ?_⟩
                    match c, hc with
                    | 0, _ => exact h j 0 .u8 hjl rfl
                    | 1, _ => exact h j 1 .u8 hjl rfl
                    | 2, _ => exact h j 2 .u8 hjl rfl
                have hu : ∀ c, c < 3 → 0 ≤ f2 j c ∧ f2 j c ≤ 255 := fun c hc => by
                  have : (Lit.int .u8 (f2 j c)).wf = true := by
                    match c, hc with
                    | 0, _ => exact HW2.out j 0 .u8 hjl rfl
                    | 1, _ => exact HW2.out j 1 .u8 hjl rfl
                    | 2, _ => exact HW2.out j 2 .u8 hjl rfl
                  simp [Lit.wf, IntKind.min, IntKind.max, IntKind.signed, IntKind.bits] at this
                  omega
                subst hva
                have old : ∀ {k : Nat} {v : Value}, w.cell? ⟨sb, k, none⟩ = some v → wr.cell? ⟨sb, k, none⟩ = some v := fun h => (HK3.out.os.below.cell (p := ⟨sb, _, none⟩) (World.block_lt_of_cell? w _ h)).trans h
                obtain ⟨x0, hx0⟩ : ∃ x, f2 j 0 = x := ⟨_, rfl⟩
                obtain ⟨x1, hx1⟩ : ∃ x : Nat, f2 j 1 = x := ⟨(f2 j 1).toNat, by have := hu 1 (by decide); omega⟩
                obtain ⟨x2, hx2⟩ : ∃ x, f2 j 2 = x := ⟨_, rfl⟩
                have s0 : wr.cell? ⟨sb, so + j * 3, none⟩ = some (.int .u8 x0) := by rw [← hx0]; exact old (hcs 0 (by decide))
                have s1 : wr.cell? ⟨sb, so + j * 3 + 1, none⟩ = some (.int .u8 (x1 : Int)) := by rw [← hx1]; exact old (hcs 1 (by decide))
                have s2 : wr.cell? ⟨sb, so + j * 3 + 2, none⟩ = some (.int .u8 x2) := by rw [← hx2]; exact old (hcs 2 (by decide))
                have hb0 : 0 ≤ x0 ∧ x0 ≤ 255 := hx0 ▸ hu 0 (by decide)
                have hb1' : x1 ≤ 255 := by have := hu 1 (by decide); omega
                have hb2 : 0 ≤ x2 ∧ x2 ≤ 255 := hx2 ▸ hu 2 (by decide)
                clear hcs hu old hx0 hx1 hx2
                obtain ⟨kk, hkk, hkl⟩ : ∃ kk : Nat, x0.tmod (ws.length : Int) = (kk : Int) ∧ kk < ws.length := ⟨x0.toNat % ws.length, tmod_nat _ hb0.1, Nat.mod_lt _ hw0⟩
                obtain ⟨kv, hkv, hvl⟩ : ∃ kv : Nat, x2.tmod (ws.length : Int) = (kv : Int) ∧ kv < ws.length := ⟨x2.toNat % ws.length, tmod_nat _ hb2.1, Nat.mod_lt _ hw0⟩
                have hkk2 : x0 % (ws.length : Int) = (kk : Int) := by rw [← hkk, Int.tmod_eq_emod_of_nonneg hb0.1]
                have hkv2 : x2 % (ws.length : Int) = (kv : Int) := by rw [← hkv, Int.tmod_eq_emod_of_nonneg hb2.1]
                obtain ⟨x, hxk⟩ : ∃ x, ws[kk]? = some x := ⟨_, List.getElem?_eq_getElem hkl⟩
                obtain ⟨v, hxv⟩ : ∃ x, ws[kv]? = some x := ⟨_, List.getElem?_eq_getElem hvl⟩
                obtain ⟨q, hqk⟩ : ∃ q, q3[kk]? = some q := ⟨_, List.getElem?_eq_getElem (by have := HQW.out; omega)⟩
                have XK := Lib.hid hxk
                have XV := Lib.hid hxv
                have QK := Lib.hid hqk
                obtain ⟨fx, -, m, -, hxm, hrm⟩ := HQ3.out.word H03.out FB3.out (List.mem_of_getElem? hxk)
                obtain ⟨fv, ffv, -⟩ := HQ3.out.word H03.out FB3.out (List.mem_of_getElem? hxv)
                obtain ⟨m', hm', hoq'⟩ := HQ3.out.ob kk x q hxk hqk
                have FX := Lib.hid fx
                have FV := Lib.hid fv
                have FOV := Lib.hid ffv
                have RM := Lib.hid hrm
                have OQ : Hid (objAt obs3 m = some (obO q)) := Lib.hid (by
                  have hl := objAt_lt hoq'
                  have h1 := refersO_place (first := 0 * (N : Int)) hoq' H03.out (by have := FB3.out; omega)
                  rw [← hm', hrm] at h1
                  rw [Option.some.inj h1]
                  exact hoq')
                have QL := Lib.hid (few_ob HK3.out.os.held.ok HO3.out OQ.out)
                clear fx fv ffv hrm hxm hm' hoq' hxk hxv hqk
                obtain ⟨wg, wcap, wrest, hwa, -, -⟩ := own_rowO HK3.out.ow hw1
                obtain ⟨hg, hcap, hrest, hha, -, -⟩ := own_rowO HK3.out.oh (by have := HQW.out; omega)
                subst hwa hha
                obtain ⟨c0, c1, c2, c3, c4, c5⟩ := cellsP HK3.out XK.out
                have c6 := (cellsP HK3.out XV.out).2.2.2.2.2
                have w80 : IntKind.i64.wrap x0 = x0 := by rw [IntKind.wrap_i64]; omega
                have w81 : IntKind.i64.wrap (x1 : Int) = (x1 : Int) := by rw [IntKind.wrap_i64]; omega
                have w82 : IntKind.i64.wrap x2 = x2 := by rw [IntKind.wrap_i64]; omega
                go_wp2_with fail
                as_aux_lemma =>
                refine wp_region_held_drew (S := fun w' => w'.cell? ⟨b1, 0, none⟩ = some (.pointer (some ⟨p, 0, none⟩)) ∧ w'.cell? ⟨hb, 0, none⟩ = some (.int .i64 3) ∧ w'.cell? ⟨hb, 1, none⟩ = some (.int .i64 (N : Int)) ∧ w'.cell? ⟨hb, 2, none⟩ = some (.int .i64 0) ∧ w'.cell? ⟨hb, 3, none⟩ = some (.int .i64 tp) ∧ w'.cell? ⟨wg, kk, none⟩ = some (.int .u64 x)) (by kernel_rfl) (cellsP HK3.out.drew XK.out) (fun hH0 => ?_)
                refine wpAnyH_take (i := 0) (oi := _) (v := ?_) (by simp only [List.getElem?_toArray, List.getElem?_cons_succ, List.getElem?_cons_zero]; rfl) (by kernel_rfl) (by kernel_rfl) (by kernel_rfl) (by exact fun _ _ _ h => h) (Or.inl ⟨by rfl, ?_⟩) (by assumption) ?_
                rotate_left
                · (intro w hSw; (try dsimp only at hSw); go_simp; try with_reducible rfl)
                try simp only [Act.put, List.setIfInBounds_toArray, List.set_cons_zero, List.set_cons_succ]
                refine wpAnyH_take (i := 1) (oi := _) (v := ?_) (by simp only [List.getElem?_toArray, List.getElem?_cons_succ, List.getElem?_cons_zero]; rfl) (by kernel_rfl) (by kernel_rfl) (by kernel_rfl) (by exact fun _ _ _ h => h) (Or.inl ⟨by rfl, ?_⟩) (by assumption) ?_
                rotate_left
                · (intro w hSw; (try dsimp only at hSw); go_simp; try with_reducible rfl)
                try simp only [Act.put, List.setIfInBounds_toArray, List.set_cons_zero, List.set_cons_succ]
                refine wpAnyH_take (i := 2) (oi := _) (v := ?_) (by simp only [List.getElem?_toArray, List.getElem?_cons_succ, List.getElem?_cons_zero]; rfl) (by kernel_rfl) (by kernel_rfl) (by kernel_rfl) (by exact fun _ _ _ h => h) (Or.inl ⟨by rfl, ?_⟩) (by assumption) ?_
                rotate_left
                · (intro w hSw; (try dsimp only at hSw); go_simp; try with_reducible rfl)
                try simp only [Act.put, List.setIfInBounds_toArray, List.set_cons_zero, List.set_cons_succ]
                refine wpAnyH_take (i := 3) (oi := _) (v := ?_) (by simp only [List.getElem?_toArray, List.getElem?_cons_succ, List.getElem?_cons_zero]; rfl) (by kernel_rfl) (by kernel_rfl) (by kernel_rfl) (by exact fun _ _ _ h => h) (Or.inl ⟨by rfl, ?_⟩) (by assumption) ?_
                rotate_left
                · (intro w hSw; (try dsimp only at hSw); go_simp; try with_reducible rfl)
                try simp only [Act.put, List.setIfInBounds_toArray, List.set_cons_zero, List.set_cons_succ]
                refine wpAnyH_take (i := 4) (oi := _) (v := ?_) (by simp only [List.getElem?_toArray, List.getElem?_cons_succ, List.getElem?_cons_zero]; rfl) (by kernel_rfl) (by kernel_rfl) (by kernel_rfl) (by exact fun _ _ _ h => h) (Or.inl ⟨by rfl, ?_⟩) (by assumption) ?_
                rotate_left
                · (intro w hSw; (try dsimp only at hSw); go_simp; try with_reducible rfl)
                try simp only [Act.put, List.setIfInBounds_toArray, List.set_cons_zero, List.set_cons_succ]
                refine wpAnyH_take (i := 5) (oi := _) (v := ?_) (by simp only [List.getElem?_toArray, List.getElem?_cons_succ, List.getElem?_cons_zero]; rfl) (by kernel_rfl) (by kernel_rfl) (by kernel_rfl) (by exact fun _ _ _ h => h) (Or.inl ⟨by rfl, ?_⟩) (by assumption) ?_
                rotate_left
                · (intro w hSw; (try dsimp only at hSw); go_simp; try with_reducible rfl)
                try simp only [Act.put, List.setIfInBounds_toArray, List.set_cons_zero, List.set_cons_succ]
                refine wpAnyH_take (i := 6) (oi := _) (v := ?_) (by simp only [List.getElem?_toArray, List.getElem?_cons_succ, List.getElem?_cons_zero]; rfl) (by kernel_rfl) (by kernel_rfl) (by kernel_rfl) (by exact fun _ _ _ h => h) (Or.inl ⟨by rfl, ?_⟩) (by assumption) ?_
                rotate_left
                · (intro w hSw; (try dsimp only at hSw); go_simp; try with_reducible rfl)
                try simp only [Act.put, List.setIfInBounds_toArray, List.set_cons_zero, List.set_cons_succ]
                refine wpAnyH_take (i := 7) (oi := _) (v := ?_) (by simp only [List.getElem?_toArray, List.getElem?_cons_succ, List.getElem?_cons_zero]; rfl) (by kernel_rfl) (by kernel_rfl) (by kernel_rfl) (by exact fun _ _ _ h => h) (Or.inl ⟨by rfl, ?_⟩) (by assumption) ?_
                rotate_left
                · (intro w hSw; (try dsimp only at hSw); go_simp; try with_reducible rfl)
                try simp only [Act.put, List.setIfInBounds_toArray, List.set_cons_zero, List.set_cons_succ]
                refine wpAnyH_take (i := 8) (oi := _) (v := ?_) (by simp only [List.getElem?_toArray, List.getElem?_cons_succ, List.getElem?_cons_zero]; rfl) (by kernel_rfl) (by kernel_rfl) (by kernel_rfl) (by exact fun _ _ _ h => h) (Or.inl ⟨by rfl, ?_⟩) (by assumption) ?_
                rotate_left
                · (intro w hSw; (try dsimp only at hSw); go_simp; try with_reducible rfl)
                try simp only [Act.put, List.setIfInBounds_toArray, List.set_cons_zero, List.set_cons_succ]
                refine wpAnyH_ready (rs := [9]) (by kernel_rfl) (by simp) ?_
                refine AllReadyH.cons rfl (fun K hK => ?_) AllReadyH.nil
                go_simp
                refine (set_both HK3.out.drew HO3.out FX.out FV.out RM.out OQ.out FOV.out (by omega)).mono ?_
                rintro e w9 ⟨A9, rfl, hk9, hs9⟩
                have K9 := Lib.hid hk9
                have S9 := Lib.hid hs9
                clear hk9 hs9
                go_wp2_with fail
                refine hK.out _ _ (cellsP K9.out XK.out) (fun hH1 => ?_)
                clear hK K hH0
                try simp only [Act.put, List.setIfInBounds_toArray, List.set_cons_zero, List.set_cons_succ]
                refine wpAnyH_take (i := 10) (oi := _) (v := ?_) (by simp only [List.getElem?_toArray, List.getElem?_cons_succ, List.getElem?_cons_zero]; rfl) (by kernel_rfl) (by kernel_rfl) (by kernel_rfl) (by exact fun _ _ _ h => h) (Or.inl ⟨by rfl, ?_⟩) (by assumption) ?_
                rotate_left
                · (intro w hSw; (try dsimp only at hSw); go_simp; try with_reducible rfl)
                try simp only [Act.put, List.setIfInBounds_toArray, List.set_cons_zero, List.set_cons_succ]
                refine wpAnyH_done (by kernel_rfl) ?_ _
                clear c0 c1 c2 c3 c4 c5 c6 s0 s1 s2
                obtain ⟨h0, h1, h2, h3⟩ := cellsH K9.out QK.out
                have hq9 : kk < q3.length := (List.getElem?_eq_some_iff.1 QK.out).1
                have hql := QL.out
                by_cases hfl : x1 < q.fs.length
                · as_aux_lemma =>
                  rw [decide_eq_true hfl]
                  have hflI : (x1 : Int) < (q.fs.length : Int) := by omega
                  have O9 : Hid (A9.objs 3 (N : Int) 0 tp = some (setAll obs3 m x1 v)) := Lib.hid (by
                    rcases S9.out with ⟨_, h⟩ | ⟨h, _⟩
                    · exact h
                    · exact absurd hfl h)
                  go_wp2_with fail
                  refine (ownObject_any q.k q.t q.a q.c q.fs q.s (readsAt.of_owns (K9.out.fl q (List.mem_of_getElem? QK.out)).1) (by omega)).mono ?_
                  rintro e w10 ⟨na, nc, rfl, hof, hb10⟩
                  have K10 := Lib.hid (K9.out.on hb10)
                  obtain ⟨ng, ncap, nrest, hna, hnB, hnr⟩ := own_rowO hof (by omega)
                  subst hna
                  have NB := Lib.hid hnB
                  have OF10 : Hid (ownF V (.slice (some ⟨wg, 0, none⟩) ws.length cw) ⟨q.k, q.t, some ⟨ng, 0, none⟩, nc, q.fs, q.s⟩ w10) := Lib.hid ⟨owns_base hof (fun g hg' => by have := (hof.lt g hg').1; have := K9.out.up.size; omega), fun g hg' e => by have h1 := (hof.lt g hg').1; have h2 := (K9.out.ow.lt g e).2; omega⟩
                  have HNE := Lib.hid (show ∀ r ∈ q3, ∀ g', (obF r).ownBlock = some g' → g' ≠ ng from fun r hr g' hg' e => by have h1 := ((K9.out.fl r hr).1.lt g' hg').2; subst e; omega)
                  clear hof hb10 hnB hnr h0 h1 h2 h3
                  obtain ⟨h0, h1, h2, h3⟩ := cellsH K10.out QK.out
                  obtain ⟨hfl1, hfl2⟩ := freeH K10.out
                  have f0 := hfl2 (kk * 4)
                  have f1 := hfl2 (kk * 4 + 1)
                  have f2' := hfl2 (kk * 4 + 2)
                  have f3 := hfl2 (kk * 4 + 3)
                  obtain ⟨W11, hW11⟩ : ∃ W, (((w10.setCell ⟨hg, kk * 4, none⟩ (.int .i64 q.k)).setCell ⟨hg, kk * 4 + 1, none⟩ (.int .i64 q.t)).setCell ⟨hg, kk * 4 + 2, none⟩ (.slice (some ⟨ng, 0, none⟩) q.fs.length nc)).setCell ⟨hg, kk * 4 + 3, none⟩ (.string q.s) = W := ⟨_, rfl⟩
                  have K11 := Lib.hid (show OkO w V p p2 b1 hb F A9 (N : Int) tp (.slice (some ⟨wg, 0, none⟩) ws.length cw) (.slice (some ⟨hg, 0, none⟩) qs.length ch) ws (q3.set kk ⟨q.k, q.t, some ⟨ng, 0, none⟩, nc, q.fs, q.s⟩) W11 by rw [← hW11]; exact K10.out.lay hq9 rfl ⟨q.k, q.t, some ⟨ng, 0, none⟩, nc, q.fs, q.s⟩ OF10.out)
                  have QS := Lib.hid (show (q3.set kk ⟨q.k, q.t, some ⟨ng, 0, none⟩, nc, q.fs, q.s⟩)[kk]? = some ⟨q.k, q.t, some ⟨ng, 0, none⟩, nc, q.fs, q.s⟩ from List.getElem?_set_self hq9)
                  obtain ⟨z0, z1, z2, z3⟩ := cellsH K11.out QS.out
                  obtain ⟨ng', ncap', nrest', hna', -, hnr'⟩ := own_rowO (K11.out.fl _ (List.mem_of_getElem? QS.out)).1 (by show q.fs.length ≠ 0; omega)
                  cases hna'
                  have gx : W11.cell? ⟨ng, x1, none⟩ = some (.int .u64 q.fs[x1]) := by
                    rw [hnr'.cell, List.getElem?_append_left (by simpa using hfl)]
                    simp [wordsL, hfl]
                  have gf := hnr'.free x1
                  have gl := hnr'.lt
                  clear hnr'
                  go_wp2_with fail
                  clear hW11 h0 h1 h2 h3 f0 f1 f2' f3 z0 z1 z2 z3 gx gf gl hfl1 hfl2
                  have K12 := Lib.hid (OkO.field K11.out hq9 rfl hfl v HNE.out)
                  have BQ := Lib.hid (HQ3.out.set H03.out FB3.out XK.out QK.out RM.out (q' := ⟨q.k, q.t, some ⟨ng, 0, none⟩, nc, q.fs.set x1 v, q.s⟩) (f := x1) (v := v) rfl)
                  go_roundw
                  case rel => exact ⟨j + 1, A9, _, _, by go_num, by omega, by rw [List.length_set]; exact hq3, K12, O9, BQ⟩
                  case measure => simp [intOf]; omega
                · as_aux_lemma =>
                  rw [decide_eq_false hfl]
                  have hflI : ¬ (x1 : Int) < (q.fs.length : Int) := by omega
                  obtain rfl : A9 = A3 := by
                    rcases S9.out with ⟨h, _⟩ | ⟨_, h⟩
                    · exact absurd h hfl
                    · exact h
                  go_wp2_with fail
                  go_roundw
                  case rel => exact ⟨j + 1, A9, q3, obs3, by go_num, by omega, hq3, Lib.hid K9.out, HO3, HQ3⟩
                  case measure => simp [intOf]; omega
              · as_aux_lemma =>
                have hw0I : ¬ (0 : Int) < (ws.length : Int) := by omega
                have hw30 : ws.length ≤ 30 := hwl
                have HW4 := Lib.hid HQ3.out.len
                obtain ⟨wp, rfl⟩ : ∃ wp : World, wp = wr := ⟨_, rfl⟩
                go_wp2_with fail
                go_loopw [25] (fun vi wr => ∃ i : Nat, vi = .int .i64 i ∧ i ≤ ws.length ∧ Hid (OkO w V p p2 b1 hb F A3 (N : Int) tp (.slice wa ws.length cw) (.slice ha qs.length ch) ws q3 wr)) (fun vi _ => ws.length - (intOf vi).toNat)
                case atStart => exact ⟨0, rfl, Nat.zero_le _, HK3⟩
                case round =>
                  obtain ⟨i, rfl, hi, HK4⟩ := hrel
                  by_cases hil : i < ws.length
                  · obtain ⟨x, hx⟩ : ∃ x, ws[i]? = some x := ⟨_, List.getElem?_eq_getElem hil⟩
                    obtain ⟨q, hq⟩ : ∃ q, q3[i]? = some q := ⟨_, List.getElem?_eq_getElem (by have := HW4.out; omega)⟩
                    have XJ := Lib.hid hx
                    have QJ := Lib.hid hq
                    have HMQ := Lib.hid (List.mem_of_getElem? hq)
                    obtain ⟨fx, -, m, -, hxm, hrm⟩ := HQ3.out.word H03.out FB3.out (List.mem_of_getElem? hx)
                    obtain ⟨m', hm', hoq'⟩ := HQ3.out.ob i x q hx hq
                    have FX := Lib.hid fx
                    have RM := Lib.hid hrm
                    have OQ : Hid (objAt obs3 m = some (obO q)) := Lib.hid (by
                      have h1 := refersO_place (first := 0 * (N : Int)) hoq' H03.out (by have := FB3.out; have := objAt_lt hoq'; omega)
                      rw [← hm', hrm] at h1
                      rw [Option.some.inj h1]
                      exact hoq')
                    have QL := Lib.hid (few_ob HK3.out.os.held.ok HO3.out OQ.out)
                    have hql := QL.out
                    clear fx hxm hrm hm' hoq' hx hq
                    obtain ⟨wg, wcap, wrest, hwa, -, -⟩ := own_rowO HK4.out.ow (by omega)
                    obtain ⟨hg, hcap, hrest, hha, -, -⟩ := own_rowO HK4.out.oh (by have := HW4.out; omega)
                    subst hwa hha
                    go_upto_region 43 with fail
                    go_cut [26, 27] (fun v26 v27 wx => CutG w V p p2 b1 hb F A3 (N : Int) tp (.slice (some ⟨wg, 0, none⟩) ws.length cw) (.slice (some ⟨hg, 0, none⟩) qs.length ch) ws q3 q v26 v27 wx)
                    case first =>
                      as_aux_lemma =>
                      have GT := Lib.hid (fun (W' : World) (k : OkO w V p p2 b1 hb F A3 (N : Int) tp (.slice (some ⟨wg, 0, none⟩) ws.length cw) (.slice (some ⟨hg, 0, none⟩) qs.length ch) ws q3 W') => get_is k HO3.out FX.out RM.out OQ.out)
                      obtain ⟨c0, c1, c2, c3, c4, c5⟩ := cellsP HK4.out XJ.out
                      have nb1 : b1 ≠ wr.heap.size := by have := HK4.out.os.two.lt; omega
                      have nb2 : hb ≠ wr.heap.size := by have := HK4.out.hp.lt; omega
                      have nb3 : wg ≠ wr.heap.size := by have := (HK4.out.ow.lt wg rfl).2; omega
                      go_wp2_with fail
                      go_region_held3 (fun w' => w'.cell? ⟨b1, 0, none⟩ = some (.pointer (some ⟨p, 0, none⟩)) ∧ w'.cell? ⟨hb, 0, none⟩ = some (.int .i64 3) ∧ w'.cell? ⟨hb, 1, none⟩ = some (.int .i64 (N : Int)) ∧ w'.cell? ⟨hb, 2, none⟩ = some (.int .i64 0) ∧ w'.cell? ⟨hb, 3, none⟩ = some (.int .i64 tp) ∧ w'.cell? ⟨wg, i, none⟩ = some (.int .u64 x))
                        (first | with_reducible exact cellsP HK4.out XJ.out | with_reducible exact cellsP HK4.out.drew XJ.out | with_reducible exact cellsP (HK4.out.al _) XJ.out | with_reducible exact cellsP (HK4.out.al _).drew XJ.out | with_reducible exact cellsP K9.out XJ.out | with_reducible exact cellsP (K9.out.al _) XJ.out | (refine ⟨?_, ?_, ?_, ?_, ?_, ?_⟩ <;> simp [go_sem, y0, y1, y2, y3, y4, y5, nb1, nb2, nb3, nc1, nc2, nc3]; done))
                        (first
                        | (go_at_call 15
                           with_reducible refine (GT.out wr.drew HK4.out.drew).mono ?_
                           rintro e w9 ⟨hb9, ga, gc, rfl, hg9⟩
                           have K9 := Lib.hid (HK4.out.drew.on hb9)
                           have OG := Lib.hid (readsAt.of_owns hg9)
                           obtain ⟨y0, y1, y2, y3, y4, y5⟩ := cellsP K9.out XJ.out
                           have nc1 : b1 ≠ w9.heap.size := by have := K9.out.os.two.lt; omega
                           have nc2 : hb ≠ w9.heap.size := by have := K9.out.hp.lt; omega
                           have nc3 : wg ≠ w9.heap.size := by have := (K9.out.ow.lt wg rfl).2; omega
                           clear hb9 hg9)
                        | (go_at_call 15
                           with_reducible refine (GT.out (wr.alloc (.cells #[.int .i64 0, .int .i64 0, .slice none 0 0, .string ⟨#[]⟩] 35)).drew (HK4.out.al _).drew).mono ?_
                           rintro e w9 ⟨hb9, ga, gc, rfl, hg9⟩
                           have K9 := Lib.hid ((HK4.out.al _).drew.on hb9)
                           have RZ := Lib.hid ((rowAt.made wr 35 [.int .i64 0, .int .i64 0, .slice none 0 0, .string ⟨#[]⟩]).drew.below hb9 (by simp))
                           have OG := Lib.hid (readsAt.of_owns hg9)
                           have GN := Lib.hid (fun g (hg' : (Value.slice ga q.fs.length gc).ownBlock = some g) => show g ≠ wr.heap.size from by have := (hg9.lt g hg').1; simp at this; omega)
                           have OH := Lib.hid hg9
                           obtain ⟨y0, y1, y2, y3, y4, y5⟩ := cellsP K9.out XJ.out
                           obtain ⟨x0, x1, x2, x3⟩ := cells4O RZ.out
                           have f0 := RZ.out.free 0
                           have f1 := RZ.out.free 1
                           have f2' := RZ.out.free 2
                           have f3 := RZ.out.free 3
                           have l9 := RZ.out.lt
                           have nc1 : b1 ≠ w9.heap.size := by have := K9.out.os.two.lt; omega
                           have nc2 : hb ≠ w9.heap.size := by have := K9.out.hp.lt; omega
                           have nc3 : wg ≠ w9.heap.size := by have := (K9.out.ow.lt wg rfl).2; omega
                           clear hb9 hg9))
                      all_goals
                        go_wp2_with fail
                        go_meet
                        first
                          | exact cutG_last K9.out OG.out
                          | exact cutG_set K9.out HK4.out RZ.out OH.out GN.out
                    case rest =>
                      as_aux_lemma =>
                      obtain ⟨go, ga, gc, rfl, rfl, hk9, hr9, hg9⟩ := hcut
                      rename_i w9
                      have K9 := Lib.hid hk9
                      have R9 := Lib.hid hr9
                      have OG9 := Lib.hid hg9
                      clear hk9 hr9 hg9
                      go_wp2_with fail
                      have hiq : i < qs.length := by have := HQW.out; omega
                      have KO := Lib.hid (keepO_at K9.out HMQ.out QL.out OG9.out)
                      have CR := Lib.hid (cellsR (ga := ga) (gc := gc) K9.out.drew R9.out.drew QJ.out)
                      as_aux_lemma =>
                      refine wp_region_held_drew (S := fun w' => w'.cell? ⟨go, 0, none⟩ = some (.int .i64 q.k) ∧ w'.cell? ⟨go, 1, none⟩ = some (.int .i64 q.t) ∧ w'.cell? ⟨go, 2, none⟩ = some (.slice ga q.fs.length gc) ∧ w'.cell? ⟨go, 3, none⟩ = some (.string q.s) ∧ w'.cell? ⟨hg, i * 4, none⟩ = some (.int .i64 q.k) ∧ w'.cell? ⟨hg, i * 4 + 1, none⟩ = some (.int .i64 q.t) ∧ w'.cell? ⟨hg, i * 4 + 2, none⟩ = some (.slice q.a q.fs.length q.c) ∧ w'.cell? ⟨hg, i * 4 + 3, none⟩ = some (.string q.s)) (by kernel_rfl) (CR.out) (fun hH0 => ?_)
                      refine wpAnyH_take (i := 0) (oi := _) (v := ?_) (by simp only [List.getElem?_toArray, List.getElem?_cons_succ, List.getElem?_cons_zero]; rfl) (by kernel_rfl) (by kernel_rfl) (by kernel_rfl) (by exact fun _ _ _ h => h) (Or.inl ⟨by rfl, ?_⟩) (by assumption) ?_
                      rotate_left
                      · (intro w hSw; (try dsimp only at hSw); go_simp; try with_reducible rfl)
                      try simp only [Act.put, List.setIfInBounds_toArray, List.set_cons_zero, List.set_cons_succ]
                      refine wpAnyH_take (i := 1) (oi := _) (v := ?_) (by simp only [List.getElem?_toArray, List.getElem?_cons_succ, List.getElem?_cons_zero]; rfl) (by kernel_rfl) (by kernel_rfl) (by kernel_rfl) (by exact fun _ _ _ h => h) (Or.inl ⟨by rfl, ?_⟩) (by assumption) ?_
                      rotate_left
                      · (intro w hSw; (try dsimp only at hSw); go_simp; try with_reducible rfl)
                      try simp only [Act.put, List.setIfInBounds_toArray, List.set_cons_zero, List.set_cons_succ]
                      refine wpAnyH_take (i := 2) (oi := _) (v := ?_) (by simp only [List.getElem?_toArray, List.getElem?_cons_succ, List.getElem?_cons_zero]; rfl) (by kernel_rfl) (by kernel_rfl) (by kernel_rfl) (by exact fun _ _ _ h => h) (Or.inl ⟨by rfl, ?_⟩) (by assumption) ?_
                      rotate_left
                      · (intro w hSw; (try dsimp only at hSw); go_simp; try with_reducible rfl)
                      try simp only [Act.put, List.setIfInBounds_toArray, List.set_cons_zero, List.set_cons_succ]
                      refine wpAnyH_take (i := 3) (oi := _) (v := ?_) (by simp only [List.getElem?_toArray, List.getElem?_cons_succ, List.getElem?_cons_zero]; rfl) (by kernel_rfl) (by kernel_rfl) (by kernel_rfl) (by exact fun _ _ _ h => h) (Or.inl ⟨by rfl, ?_⟩) (by assumption) ?_
                      rotate_left
                      · (intro w hSw; (try dsimp only at hSw); go_simp; try with_reducible rfl)
                      try simp only [Act.put, List.setIfInBounds_toArray, List.set_cons_zero, List.set_cons_succ]
                      refine wpAnyH_take (i := 4) (oi := _) (v := ?_) (by simp only [List.getElem?_toArray, List.getElem?_cons_succ, List.getElem?_cons_zero]; rfl) (by kernel_rfl) (by kernel_rfl) (by kernel_rfl) (by exact fun _ _ _ h => h) (Or.inl ⟨by rfl, ?_⟩) (by assumption) ?_
                      rotate_left
                      · (intro w hSw; (try dsimp only at hSw); go_simp; try with_reducible rfl)
                      try simp only [Act.put, List.setIfInBounds_toArray, List.set_cons_zero, List.set_cons_succ]
                      refine wpAnyH_take (i := 5) (oi := _) (v := ?_) (by simp only [List.getElem?_toArray, List.getElem?_cons_succ, List.getElem?_cons_zero]; rfl) (by kernel_rfl) (by kernel_rfl) (by kernel_rfl) (by exact fun _ _ _ h => h) (Or.inl ⟨by rfl, ?_⟩) (by assumption) ?_
                      rotate_left
                      · (intro w hSw; (try dsimp only at hSw); go_simp; try with_reducible rfl)
                      try simp only [Act.put, List.setIfInBounds_toArray, List.set_cons_zero, List.set_cons_succ]
                      refine wpAnyH_take (i := 6) (oi := _) (v := ?_) (by simp only [List.getElem?_toArray, List.getElem?_cons_succ, List.getElem?_cons_zero]; rfl) (by kernel_rfl) (by kernel_rfl) (by kernel_rfl) (by exact fun _ _ _ h => h) (Or.inl ⟨by rfl, ?_⟩) (by assumption) ?_
                      rotate_left
                      · (intro w hSw; (try dsimp only at hSw); go_simp; try with_reducible rfl)
                      try simp only [Act.put, List.setIfInBounds_toArray, List.set_cons_zero, List.set_cons_succ]
                      refine wpAnyH_take (i := 7) (oi := _) (v := ?_) (by simp only [List.getElem?_toArray, List.getElem?_cons_succ, List.getElem?_cons_zero]; rfl) (by kernel_rfl) (by kernel_rfl) (by kernel_rfl) (by exact fun _ _ _ h => h) (Or.inl ⟨by rfl, ?_⟩) (by assumption) ?_
                      rotate_left
                      · (intro w hSw; (try dsimp only at hSw); go_simp; try with_reducible rfl)
                      try simp only [Act.put, List.setIfInBounds_toArray, List.set_cons_zero, List.set_cons_succ]
                      refine wpAnyH_ready (rs := [8]) (by kernel_rfl) (by simp) ?_
                      refine AllReadyH.cons rfl (fun K hK => ?_) AllReadyH.nil
                      go_simp
                      refine (KO.out).mono ?_
                      rintro e w11 ⟨rfl, hb11⟩
                      have K11 := Lib.hid (K9.out.drew.on hb11)
                      have R11 := Lib.hid (R9.out.drew.below hb11 R9.out.lt)
                      clear hb11
                      go_wp2_with fail
                      refine hK.out _ _ (cellsR K11.out R11.out QJ.out) (fun hH1 => ?_)
                      clear hK K hH0
                      try simp only [Act.put, List.setIfInBounds_toArray, List.set_cons_zero, List.set_cons_succ]
                      refine wpAnyH_take (i := 9) (oi := _) (v := ?_) (by simp only [List.getElem?_toArray, List.getElem?_cons_succ, List.getElem?_cons_zero]; rfl) (by kernel_rfl) (by kernel_rfl) (by kernel_rfl) (by exact fun _ _ _ h => h) (Or.inl ⟨by rfl, ?_⟩) (by assumption) ?_
                      rotate_left
                      · (intro w hSw; (try dsimp only at hSw); go_simp; try with_reducible rfl)
                      try simp only [Act.put, List.setIfInBounds_toArray, List.set_cons_zero, List.set_cons_succ]
                      refine wpAnyH_take (i := 10) (oi := _) (v := ?_) (by simp only [List.getElem?_toArray, List.getElem?_cons_succ, List.getElem?_cons_zero]; rfl) (by kernel_rfl) (by kernel_rfl) (by kernel_rfl) (by exact fun _ _ _ h => h) (Or.inl ⟨by rfl, ?_⟩) (by assumption) ?_
                      rotate_left
                      · (intro w hSw; (try dsimp only at hSw); go_simp; try with_reducible rfl)
                      try simp only [Act.put, List.setIfInBounds_toArray, List.set_cons_zero, List.set_cons_succ]
                      refine wpAnyH_done (by kernel_rfl) ?_ _
                      go_wp2_with fail
                      go_roundw
                      case rel => exact ⟨i + 1, by go_num, by omega, Lib.hid K11.out⟩
                      case measure => simp [intOf]; omega
                  · obtain rfl : i = ws.length := by omega
                    as_aux_lemma =>
                    obtain ⟨d0, d1, d2, d3⟩ := cells4O HK4.out.hp
                    have d4 : wr.cell? ⟨b1, 0, none⟩ = some (.pointer (some ⟨p, 0, none⟩)) := (HK4.out.os.two.cell 0).trans rfl
                    go_wp2_with fail
                    clear d0 d1 d2 d3 d4
                    refine (goodO HK4.out.os.held 3 (N : Int) 0 tp HO3.out).mono ?_
                    rintro e w8 ⟨rfl, hb8⟩
                    have B8 := Lib.hid (bl_call HK4.out.os.below hb8)
                    clear hb8
                    go_wp2_with fail
                    refine (wakes_any _).mono ?_
                    rintro e wz ⟨rfl, hb⟩
                    have BZ := Lib.hid (bl_call B8.out hb)
                    clear hb
                    go_wp2_with fail
                    go_ret
                    exact ⟨rfl, BZ.out⟩
            · as_aux_lemma =>
              obtain rfl : j = n2 := by omega
              have hw30 : ws.length ≤ 30 := hwl
              have HW4 := Lib.hid HQ3.out.len
              obtain ⟨wp, rfl⟩ : ∃ wp : World, wp = wr := ⟨_, rfl⟩
              go_wp2_with fail
              go_loopw [25] (fun vi wr => ∃ i : Nat, vi = .int .i64 i ∧ i ≤ ws.length ∧ Hid (OkO w V p p2 b1 hb F A3 (N : Int) tp (.slice wa ws.length cw) (.slice ha qs.length ch) ws q3 wr)) (fun vi _ => ws.length - (intOf vi).toNat)
              case atStart => exact ⟨0, rfl, Nat.zero_le _, HK3⟩
              case round =>
                obtain ⟨i, rfl, hi, HK4⟩ := hrel
                by_cases hil : i < ws.length
                · obtain ⟨x, hx⟩ : ∃ x, ws[i]? = some x := ⟨_, List.getElem?_eq_getElem hil⟩
                  obtain ⟨q, hq⟩ : ∃ q, q3[i]? = some q := ⟨_, List.getElem?_eq_getElem (by have := HW4.out; omega)⟩
                  have XJ := Lib.hid hx
                  have QJ := Lib.hid hq
                  have HMQ := Lib.hid (List.mem_of_getElem? hq)
                  obtain ⟨fx, -, m, -, hxm, hrm⟩ := HQ3.out.word H03.out FB3.out (List.mem_of_getElem? hx)
                  obtain ⟨m', hm', hoq'⟩ := HQ3.out.ob i x q hx hq
                  have FX := Lib.hid fx
                  have RM := Lib.hid hrm
                  have OQ : Hid (objAt obs3 m = some (obO q)) := Lib.hid (by
                    have h1 := refersO_place (first := 0 * (N : Int)) hoq' H03.out (by have := FB3.out; have := objAt_lt hoq'; omega)
                    rw [← hm', hrm] at h1
                    rw [Option.some.inj h1]
                    exact hoq')
                  have QL := Lib.hid (few_ob HK3.out.os.held.ok HO3.out OQ.out)
                  have hql := QL.out
                  clear fx hxm hrm hm' hoq' hx hq
                  obtain ⟨wg, wcap, wrest, hwa, -, -⟩ := own_rowO HK4.out.ow (by omega)
                  obtain ⟨hg, hcap, hrest, hha, -, -⟩ := own_rowO HK4.out.oh (by have := HW4.out; omega)
                  subst hwa hha
                  go_upto_region 43 with fail
                  go_cut [26, 27] (fun v26 v27 wx => CutG w V p p2 b1 hb F A3 (N : Int) tp (.slice (some ⟨wg, 0, none⟩) ws.length cw) (.slice (some ⟨hg, 0, none⟩) qs.length ch) ws q3 q v26 v27 wx)
                  case first =>
                    as_aux_lemma =>
                    have GT := Lib.hid (fun (W' : World) (k : OkO w V p p2 b1 hb F A3 (N : Int) tp (.slice (some ⟨wg, 0, none⟩) ws.length cw) (.slice (some ⟨hg, 0, none⟩) qs.length ch) ws q3 W') => get_is k HO3.out FX.out RM.out OQ.out)
                    obtain ⟨c0, c1, c2, c3, c4, c5⟩ := cellsP HK4.out XJ.out
                    have nb1 : b1 ≠ wr.heap.size := by have := HK4.out.os.two.lt; omega
                    have nb2 : hb ≠ wr.heap.size := by have := HK4.out.hp.lt; omega
                    have nb3 : wg ≠ wr.heap.size := by have := (HK4.out.ow.lt wg rfl).2; omega
                    go_wp2_with fail
                    go_region_held3 (fun w' => w'.cell? ⟨b1, 0, none⟩ = some (.pointer (some ⟨p, 0, none⟩)) ∧ w'.cell? ⟨hb, 0, none⟩ = some (.int .i64 3) ∧ w'.cell? ⟨hb, 1, none⟩ = some (.int .i64 (N : Int)) ∧ w'.cell? ⟨hb, 2, none⟩ = some (.int .i64 0) ∧ w'.cell? ⟨hb, 3, none⟩ = some (.int .i64 tp) ∧ w'.cell? ⟨wg, i, none⟩ = some (.int .u64 x))
                      (first | with_reducible exact cellsP HK4.out XJ.out | with_reducible exact cellsP HK4.out.drew XJ.out | with_reducible exact cellsP (HK4.out.al _) XJ.out | with_reducible exact cellsP (HK4.out.al _).drew XJ.out | with_reducible exact cellsP K9.out XJ.out | with_reducible exact cellsP (K9.out.al _) XJ.out | (refine ⟨?_, ?_, ?_, ?_, ?_, ?_⟩ <;> simp [go_sem, y0, y1, y2, y3, y4, y5, nb1, nb2, nb3, nc1, nc2, nc3]; done))
                      (first
                      | (go_at_call 15
                         with_reducible refine (GT.out wr.drew HK4.out.drew).mono ?_
                         rintro e w9 ⟨hb9, ga, gc, rfl, hg9⟩
                         have K9 := Lib.hid (HK4.out.drew.on hb9)
                         have OG := Lib.hid (readsAt.of_owns hg9)
                         obtain ⟨y0, y1, y2, y3, y4, y5⟩ := cellsP K9.out XJ.out
                         have nc1 : b1 ≠ w9.heap.size := by have := K9.out.os.two.lt; omega
                         have nc2 : hb ≠ w9.heap.size := by have := K9.out.hp.lt; omega
                         have nc3 : wg ≠ w9.heap.size := by have := (K9.out.ow.lt wg rfl).2; omega
                         clear hb9 hg9)
                      | (go_at_call 15
                         with_reducible refine (GT.out (wr.alloc (.cells #[.int .i64 0, .int .i64 0, .slice none 0 0, .string ⟨#[]⟩] 35)).drew (HK4.out.al _).drew).mono ?_
                         rintro e w9 ⟨hb9, ga, gc, rfl, hg9⟩
                         have K9 := Lib.hid ((HK4.out.al _).drew.on hb9)
                         have RZ := Lib.hid ((rowAt.made wr 35 [.int .i64 0, .int .i64 0, .slice none 0 0, .string ⟨#[]⟩]).drew.below hb9 (by simp))
                         have OG := Lib.hid (readsAt.of_owns hg9)
                         have GN := Lib.hid (fun g (hg' : (Value.slice ga q.fs.length gc).ownBlock = some g) => show g ≠ wr.heap.size from by have := (hg9.lt g hg').1; simp at this; omega)
                         have OH := Lib.hid hg9
                         obtain ⟨y0, y1, y2, y3, y4, y5⟩ := cellsP K9.out XJ.out
                         obtain ⟨x0, x1, x2, x3⟩ := cells4O RZ.out
                         have f0 := RZ.out.free 0
                         have f1 := RZ.out.free 1
                         have f2' := RZ.out.free 2
                         have f3 := RZ.out.free 3
                         have l9 := RZ.out.lt
                         have nc1 : b1 ≠ w9.heap.size := by have := K9.out.os.two.lt; omega
                         have nc2 : hb ≠ w9.heap.size := by have := K9.out.hp.lt; omega
                         have nc3 : wg ≠ w9.heap.size := by have := (K9.out.ow.lt wg rfl).2; omega
                         clear hb9 hg9))
                    all_goals
                      go_wp2_with fail
                      go_meet
                      first
                        | exact cutG_last K9.out OG.out
                        | exact cutG_set K9.out HK4.out RZ.out OH.out GN.out
                  case rest =>
                    as_aux_lemma =>
                    obtain ⟨go, ga, gc, rfl, rfl, hk9, hr9, hg9⟩ := hcut
                    rename_i w9
                    have K9 := Lib.hid hk9
                    have R9 := Lib.hid hr9
                    have OG9 := Lib.hid hg9
                    clear hk9 hr9 hg9
                    go_wp2_with fail
                    have hiq : i < qs.length := by have := HQW.out; omega
                    have KO := Lib.hid (keepO_at K9.out HMQ.out QL.out OG9.out)
                    have CR := Lib.hid (cellsR (ga := ga) (gc := gc) K9.out.drew R9.out.drew QJ.out)
                    as_aux_lemma =>
                    refine wp_region_held_drew (S := fun w' => w'.cell? ⟨go, 0, none⟩ = some (.int .i64 q.k) ∧ w'.cell? ⟨go, 1, none⟩ = some (.int .i64 q.t) ∧ w'.cell? ⟨go, 2, none⟩ = some (.slice ga q.fs.length gc) ∧ w'.cell? ⟨go, 3, none⟩ = some (.string q.s) ∧ w'.cell? ⟨hg, i * 4, none⟩ = some (.int .i64 q.k) ∧ w'.cell? ⟨hg, i * 4 + 1, none⟩ = some (.int .i64 q.t) ∧ w'.cell? ⟨hg, i * 4 + 2, none⟩ = some (.slice q.a q.fs.length q.c) ∧ w'.cell? ⟨hg, i * 4 + 3, none⟩ = some (.string q.s)) (by kernel_rfl) (CR.out) (fun hH0 => ?_)
                    refine wpAnyH_take (i := 0) (oi := _) (v := ?_) (by simp only [List.getElem?_toArray, List.getElem?_cons_succ, List.getElem?_cons_zero]; rfl) (by kernel_rfl) (by kernel_rfl) (by kernel_rfl) (by exact fun _ _ _ h => h) (Or.inl ⟨by rfl, ?_⟩) (by assumption) ?_
                    rotate_left
                    · (intro w hSw; (try dsimp only at hSw); go_simp; try with_reducible rfl)
                    try simp only [Act.put, List.setIfInBounds_toArray, List.set_cons_zero, List.set_cons_succ]
                    refine wpAnyH_take (i := 1) (oi := _) (v := ?_) (by simp only [List.getElem?_toArray, List.getElem?_cons_succ, List.getElem?_cons_zero]; rfl) (by kernel_rfl) (by kernel_rfl) (by kernel_rfl) (by exact fun _ _ _ h => h) (Or.inl ⟨by rfl, ?_⟩) (by assumption) ?_
                    rotate_left
                    · (intro w hSw; (try dsimp only at hSw); go_simp; try with_reducible rfl)
                    try simp only [Act.put, List.setIfInBounds_toArray, List.set_cons_zero, List.set_cons_succ]
                    refine wpAnyH_take (i := 2) (oi := _) (v := ?_) (by simp only [List.getElem?_toArray, List.getElem?_cons_succ, List.getElem?_cons_zero]; rfl) (by kernel_rfl) (by kernel_rfl) (by kernel_rfl) (by exact fun _ _ _ h => h) (Or.inl ⟨by rfl, ?_⟩) (by assumption) ?_
                    rotate_left
                    · (intro w hSw; (try dsimp only at hSw); go_simp; try with_reducible rfl)
                    try simp only [Act.put, List.setIfInBounds_toArray, List.set_cons_zero, List.set_cons_succ]
                    refine wpAnyH_take (i := 3) (oi := _) (v := ?_) (by simp only [List.getElem?_toArray, List.getElem?_cons_succ, List.getElem?_cons_zero]; rfl) (by kernel_rfl) (by kernel_rfl) (by kernel_rfl) (by exact fun _ _ _ h => h) (Or.inl ⟨by rfl, ?_⟩) (by assumption) ?_
                    rotate_left
                    · (intro w hSw; (try dsimp only at hSw); go_simp; try with_reducible rfl)
                    try simp only [Act.put, List.setIfInBounds_toArray, List.set_cons_zero, List.set_cons_succ]
                    refine wpAnyH_take (i := 4) (oi := _) (v := ?_) (by simp only [List.getElem?_toArray, List.getElem?_cons_succ, List.getElem?_cons_zero]; rfl) (by kernel_rfl) (by kernel_rfl) (by kernel_rfl) (by exact fun _ _ _ h => h) (Or.inl ⟨by rfl, ?_⟩) (by assumption) ?_
                    rotate_left
                    · (intro w hSw; (try dsimp only at hSw); go_simp; try with_reducible rfl)
                    try simp only [Act.put, List.setIfInBounds_toArray, List.set_cons_zero, List.set_cons_succ]
                    refine wpAnyH_take (i := 5) (oi := _) (v := ?_) (by simp only [List.getElem?_toArray, List.getElem?_cons_succ, List.getElem?_cons_zero]; rfl) (by kernel_rfl) (by kernel_rfl) (by kernel_rfl) (by exact fun _ _ _ h => h) (Or.inl ⟨by rfl, ?_⟩) (by assumption) ?_
                    rotate_left
                    · (intro w hSw; (try dsimp only at hSw); go_simp; try with_reducible rfl)
                    try simp only [Act.put, List.setIfInBounds_toArray, List.set_cons_zero, List.set_cons_succ]
                    refine wpAnyH_take (i := 6) (oi := _) (v := ?_) (by simp only [List.getElem?_toArray, List.getElem?_cons_succ, List.getElem?_cons_zero]; rfl) (by kernel_rfl) (by kernel_rfl) (by kernel_rfl) (by exact fun _ _ _ h => h) (Or.inl ⟨by rfl, ?_⟩) (by assumption) ?_
                    rotate_left
                    · (intro w hSw; (try dsimp only at hSw); go_simp; try with_reducible rfl)
                    try simp only [Act.put, List.setIfInBounds_toArray, List.set_cons_zero, List.set_cons_succ]
                    refine wpAnyH_take (i := 7) (oi := _) (v := ?_) (by simp only [List.getElem?_toArray, List.getElem?_cons_succ, List.getElem?_cons_zero]; rfl) (by kernel_rfl) (by kernel_rfl) (by kernel_rfl) (by exact fun _ _ _ h => h) (Or.inl ⟨by rfl, ?_⟩) (by assumption) ?_
                    rotate_left
                    · (intro w hSw; (try dsimp only at hSw); go_simp; try with_reducible rfl)
                    try simp only [Act.put, List.setIfInBounds_toArray, List.set_cons_zero, List.set_cons_succ]
                    refine wpAnyH_ready (rs := [8]) (by kernel_rfl) (by simp) ?_
                    refine AllReadyH.cons rfl (fun K hK => ?_) AllReadyH.nil
                    go_simp
                    refine (KO.out).mono ?_
                    rintro e w11 ⟨rfl, hb11⟩
                    have K11 := Lib.hid (K9.out.drew.on hb11)
                    have R11 := Lib.hid (R9.out.drew.below hb11 R9.out.lt)
                    clear hb11
                    go_wp2_with fail
                    refine hK.out _ _ (cellsR K11.out R11.out QJ.out) (fun hH1 => ?_)
                    clear hK K hH0
                    try simp only [Act.put, List.setIfInBounds_toArray, List.set_cons_zero, List.set_cons_succ]
                    refine wpAnyH_take (i := 9) (oi := _) (v := ?_) (by simp only [List.getElem?_toArray, List.getElem?_cons_succ, List.getElem?_cons_zero]; rfl) (by kernel_rfl) (by kernel_rfl) (by kernel_rfl) (by exact fun _ _ _ h => h) (Or.inl ⟨by rfl, ?_⟩) (by assumption) ?_
                    rotate_left
                    · (intro w hSw; (try dsimp only at hSw); go_simp; try with_reducible rfl)
                    try simp only [Act.put, List.setIfInBounds_toArray, List.set_cons_zero, List.set_cons_succ]
                    refine wpAnyH_take (i := 10) (oi := _) (v := ?_) (by simp only [List.getElem?_toArray, List.getElem?_cons_succ, List.getElem?_cons_zero]; rfl) (by kernel_rfl) (by kernel_rfl) (by kernel_rfl) (by exact fun _ _ _ h => h) (Or.inl ⟨by rfl, ?_⟩) (by assumption) ?_
                    rotate_left
                    · (intro w hSw; (try dsimp only at hSw); go_simp; try with_reducible rfl)
                    try simp only [Act.put, List.setIfInBounds_toArray, List.set_cons_zero, List.set_cons_succ]
                    refine wpAnyH_done (by kernel_rfl) ?_ _
                    go_wp2_with fail
                    go_roundw
                    case rel => exact ⟨i + 1, by go_num, by omega, Lib.hid K11.out⟩
                    case measure => simp [intOf]; omega
                · obtain rfl : i = ws.length := by omega
                  as_aux_lemma =>
                  obtain ⟨d0, d1, d2, d3⟩ := cells4O HK4.out.hp
                  have d4 : wr.cell? ⟨b1, 0, none⟩ = some (.pointer (some ⟨p, 0, none⟩)) := (HK4.out.os.two.cell 0).trans rfl
                  go_wp2_with fail
                  clear d0 d1 d2 d3 d4
                  refine (goodO HK4.out.os.held 3 (N : Int) 0 tp HO3.out).mono ?_
                  rintro e w8 ⟨rfl, hb8⟩
                  have B8 := Lib.hid (bl_call HK4.out.os.below hb8)
                  clear hb8
                  go_wp2_with fail
                  refine (wakes_any _).mono ?_
                  rintro e wz ⟨rfl, hb⟩
                  have BZ := Lib.hid (bl_call B8.out hb)
                  clear hb
                  go_wp2_with fail
                  go_ret
                  exact ⟨rfl, BZ.out⟩

theorem contract (H : Type) (enc : TypeId × Value → H) (W : World) (base : Nat) (args : Array Value) (ds gs : List (DataW H)) (before : List MemPlace)
    (hval0 : ∀ (j : Nat) t v, Try.f3.params[j]? = some t → args[j]? = some v → Value.okWide Try.prog W .any base t v)
    (hW : DataW.Whole enc Try.prog Try.f3.params.toList Rows.objectBackSpec.vars false W args.toList ds gs before)
    (hz : (DataW.weightsEach Try.prog (Try.f3.params.toList ++ Rows.objectBackSpec.plain.varTypes Try.prog) (ds ++ gs)).all (· ≤ reachBytes) = true) :
    Calls Try.prog 3 args W fun e W' => ∃ v, e = .returned v ∧ Rows.objectBackSpec.post enc Try.prog Try.f3 false true false false W args v W' := by
  have hW' := hW
  have hval := hval0
  obtain ⟨p, q, hA0, hV, rfl, hfz, hnd⟩ := hW
  have hA : DataW.TrodAll enc Try.prog W 0 (fun _ => true) true Try.f3.params.toList args.toList ds p := hA0
  rw [Try.params3] at hA hval
  obtain ⟨rfl, rfl⟩ := trodVars_none hV
  have wb : ∀ (j : Nat) (t : TypeId) (d : DataW H), Try.f3.params[j]? = some t → ds[j]? = some d → WBo Try.prog t d := fun j t d ht hd => wbo_of hz (by simpa using ht) hd
  rw [Try.params3] at wb
  obtain ⟨v0, vs0, d0, ds0, p0, q0, hargs, rfl, rfl, h0, r0⟩ := trodAll_cons hA
  obtain ⟨v1, vs1, d1, ds1, p1, q1, rfl, rfl, rfl, h1, r1⟩ := trodAll_cons r0
  obtain ⟨v2, vs2, d2, ds2, p2, q2, rfl, rfl, rfl, h2, r2⟩ := trodAll_cons r1
  obtain ⟨rfl, rfl, rfl⟩ := trodAll_nil r2
  obtain rfl : args = #[v0, v1, v2] := by cases args; simp_all
  obtain ⟨a0, rfl, rfl, rfl, w0⟩ := open_int Try.underlying5 (hval 0 5 v0 rfl rfl) h0
  obtain ⟨sa1, sc1, l1, rfl, ho1, hc1⟩ := open_objs (wb 1 _ _ rfl rfl) (hval 1 22 v1 rfl rfl) h1
  obtain ⟨n2, f2, hr2, hm2⟩ := open_slice_array 3 .u8 Try.underlying23 Try.underlying44 Try.underlying5 (by kernel_rfl) (by kernel_rfl) (by decide) (hval 2 23 v2 rfl rfl) h2
  refine (walk a0 sa1 sc1 l1 v2 n2 f2 W w0 ho1 hc1 hr2 hm2).mono fun e W' ⟨he, hb⟩ => ?_
  subst he
  exact ⟨_, rfl, law_post laidOut (by kernel_rfl) rfl (by kernel_rfl) Try.underlying4 hW' rfl rfl rfl hb⟩

set_option maxRecDepth 100000 in
theorem lifted (os : Os) (started : os.Started) (H : Type) (enc : TypeId × Value → H) :
    ReturnsInHanded {} Try.checked os 3 .any (Rows.objectBackSpec.pre6 enc Try.prog Try.f3 Rows.objectBackRow.domain false) (Rows.objectBackSpec.post enc Try.prog Try.f3 false true false false) := by
  refine returnsInHanded_of_change_sized (C := Try.checked) own started (by kernel_rfl) Try.func3
    (ChangeSpec.witness6 (enc := enc) (C := Try.checked) false ⟨#[], #[.int .u8 0, .slice none 0 0, .slice none 0 0], []⟩ 8 (by kernel_rfl) (by kernel_rfl) (by kernel_rfl) (by kernel_rfl)) ?_
  intro W base args ds gs before hval hW _ hz _
  exact contract H enc W base args ds gs before hval hW hz

theorem over : Rows.objectBackRow.holds Try.pinned (OpenSpec.ofChange Rows.objectBackSpec) :=
  OpenClaim.holds_of_wide 3 Try.f3 rfl rfl rfl rfl rfl rfl rfl ⟨rfl, rfl, rfl, rfl, rfl⟩ rfl rfl rfl rfl rfl (by kernel_rfl) Try.func3 (by kernel_rfl)
    (of_decide_eq_true (by kernel_rfl)) (by unfold Func.isWrapper; first | (rw [if_pos (by decide +kernel)]; kernel_rfl) | (rw [if_neg (by decide +kernel)]; exact ⟨rfl, rfl⟩))
    (fun os started H enc _ => lifted os started H enc)

theorem proved : Rows.ObjectBackSaid := over
#print axioms proved
end Go.Proofs.Ytnjpjhlodamanaa.objectBack
