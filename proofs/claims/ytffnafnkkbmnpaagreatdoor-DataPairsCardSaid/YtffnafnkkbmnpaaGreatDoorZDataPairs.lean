/-
  Layer 10's wakes: its message, the state of its memory.
  Conditions: as each states.
-/
import Derived.Test.YtffnafnkkbmnpaaGreatDoorZDv
import Derived.Test.YtffnafnkkbmnpaaGreatDoorZDz
import Derived.Test.YtffnafnkkbmnpaaGreatDoorLay
import Derived.Deep.DeepCutAuto
import Derived.Deep.CutBlock
import Derived.Test.YtffnafnkkbmnpaaGreatDoorZArgsM
import Derived.Test.YtffnafnkkbmnpaaGreatDoorTie
import Derived.Test.YtffnafnkkbmnpaaGreatDoorCards
import Derived.SevenTiedAt
import Derived.LaidMore
import Derived.Stop.Joined
namespace Go.Proofs.YtffnafnkkbmnpaaGreatDoor
set_option linter.unusedVariables false
set_option linter.unusedSimpArgs false
open Go.ChangeShapes Go.WideShapes Go.ChangeAt Go.RowKit
set_option maxRecDepth 100000

theorem in_any {w : World} {p : Nat} {F : Nat → Prop} {A : Ar} (hA : Held w p F A) (base half space top : Int) {a : Option Addr} {cap : Nat} {m : List PCe} (hr : rdAt F w (.slice a m.length cap) m.length (ceL m)) (hcap : m.length ≤ cap) :
    Calls Tryz.prog 13 #[.pointer (some ⟨p, 0, none⟩), heapV base half space top, .slice a m.length cap] w (InT A base half space top m p F w) := by
  cases ho : A.objs base half space top with
  | none => exact in_heap hA base half space top hr ho
  | some obs =>
    cases hg : goodMs m with
    | false => exact in_msg hA base half space top hr (by rw [ho]; rfl) hg
    | true =>
      by_cases hw : (wordsM m : Int) ≤ half - top
      · exact in_good hA base half space top hr hcap ho hg hw
      · obtain ⟨h1, h2, h3, h4, h5⟩ := objs_top hA.ok ho
        exact in_room hA base half space top hr (by rw [ho]; rfl) hg (by omega) (by rw [IntKind.wrap_i64]; omega)
def abText : ByteArray := ⟨#[97, 98]⟩
def oneM : List PCe := [blkCe 1 2, numCe 1, blkCe 1 2, strCe abText, numCe 0]
def twoM : List PCe := [blkCe 1 2, numCe 1, numCe 0]
def wakF : List PFm := [(6, 1, 0, []), (1, 0, 0, [])]
theorem one_good : goodMs oneM = true := by decide +kernel
theorem one_words : wordsM oneM = 8 := by decide +kernel
theorem one_tail : goodMs oneM.tail = false := by decide +kernel
theorem two_good : goodMs twoM = true := by decide +kernel
theorem wak_forms : rfmsG wakF = true := by decide +kernel
theorem wak_yes : fitL wakF [0] twoM = true := by decide +kernel
theorem wak_no : fitL wakF [0] oneM = false := by decide +kernel
def dA0 : Ar := Ar.laid (List.replicate 20 0)
theorem dA0_objs : dA0.objs 3 10 0 0 = some [] := by kernel_rfl
theorem one_any (w : World) : Calls Tryz.prog 26 #[] w fun e w' => e = .returned (.slice (some ⟨w.heap.size, 0, none⟩) 5 5) ∧ rowAt w' w.heap.size 51 (ceL oneM) ∧ Below w.heap.size w w' := by
  go_enter Tryz.func26, Tryz.ntmps26
  go_wp2_with fail
  go_ret
  exact ⟨rfl, rowAt.made _ _ _, bl_alloc (Below.refl _ _) _⟩
theorem row_rd {F : Nat → Prop} {w : World} {g n c : Nat} {T : TypeId} {cs : List Value} (h : rowAt w g T cs) (hF : ¬ F g) : rdAt F w (.slice (some ⟨g, 0, none⟩) n c) n cs :=
  ⟨_, _, rfl, .inr ⟨g, 0, rfl, hF, h.lt, fun j u hj => by rw [h.cell, Nat.zero_add]; exact hj⟩⟩
structure Wd (w : World) (p p2 b1 : Nat) (F : Nat → Prop) (A : Ar) (W : World) : Prop where
  held : Held W p F A
  two : rowAt W b1 33 [.pointer (some ⟨p, 0, none⟩), .pointer (some ⟨p2, 0, none⟩)]
  nb : ¬ F b1
  lo : w.heap.size ≤ b1
  fl : ∀ k, F k → w.heap.size ≤ k
  below : Below w.heap.size w W
section
variable {w : World} {p p2 b1 : Nat} {F : Nat → Prop} {A A' : Ar} {W W' : World}
theorem Wd.on (h : Wd w p p2 b1 F A W) (hb : Below W.heap.size W W') : Wd w p p2 b1 F A W' := ⟨h.held.below hb, h.two.below hb h.two.lt, h.nb, h.lo, h.fl, bl_call h.below hb⟩
theorem Wd.step (h : Wd w p p2 b1 F A W) (hs : Step F F W W') (hh : Held W' p F A') : Wd w p p2 b1 F A' W' :=
  ⟨hh, h.two.upon hs.upon h.nb, h.nb, h.lo, h.fl, h.below.trans (hs.upon.belowB h.below.size h.fl)⟩
end
/-- What the first In of wakes comes to. -/
theorem wak_in {A : Ar} {w : World} {p : Nat} {F : Nat → Prop} {e : Ending} {w' : World} (hA : A.objs 3 10 0 0 = some []) (h : InT A 3 10 0 0 oneM p F w e w') :
    Step F F w w' ∧ ∃ A1 X, e = .returned (.tuple #[heapV 3 10 0 8, .int .u64 0, .bool true]) ∧ Held w' p F A1 ∧ A1.objs 3 10 0 8 = some X ∧ outP 0 X 100 [0] = some oneM := by
  obtain ⟨hs, h⟩ := h
  refine ⟨hs, ?_⟩
  rcases h with ⟨obs, A', X, w0, h1, h2, h3, h4, h5, h6, h7, h8, c, r, h9, h10⟩ | ⟨h1, _⟩
  · rw [hA] at h1
    cases h1
    have e1 : w0 = 0 := by
      rw [h10]
      have : c = blkCe 1 2 := by unfold oneM at h9; exact (List.cons.inj h9).1.symm
      rw [this]
      rfl
    subst e1
    rw [one_words] at h4 h6
    refine ⟨A', X, by rw [h4]; rfl, h5, by simpa using h6, ?_⟩
    rw [outP_iff]
    exact ⟨by simpa using h7, by decide⟩
  · rw [hA, one_good, one_words] at h1
    cases h1
theorem wak_in2 {A : Ar} {X : List Ob} {w : World} {p : Nat} {F : Nat → Prop} {e : Ending} {w' : World} (hA : A.objs 3 10 0 8 = some X) (h : InT A 3 10 0 8 oneM p F w e w') :
    Step F F w w' ∧ e = .returned (.tuple #[heapV 0 0 0 0, .int .u64 0, .bool false]) ∧ Held w' p F A := by
  obtain ⟨hs, h⟩ := h
  refine ⟨hs, ?_⟩
  rcases h with ⟨obs, A', X, w0, h1, h2, h3, h4⟩ | ⟨h1, h2, h3⟩
  · rw [one_words] at h3
    omega
  · exact ⟨h2, h3⟩
/-- Behind the first In. -/
def CutW (w : World) (p p2 b1 : Nat) (F : Nat → Prop) (v4 v5 v6 : Value) (wx : World) : Prop :=
  ∃ hb A1 X, v4 = .pointer (some ⟨hb, 0, none⟩) ∧ v5 = .int .u64 0 ∧ v6 = .bool true ∧ Wd w p p2 b1 F A1 wx ∧ rowAt wx hb 24 [.int .i64 3, .int .i64 10, .int .i64 0, .int .i64 8] ∧ ¬ F hb ∧ A1.objs 3 10 0 8 = some X ∧ outP 0 X 100 [0] = some oneM
/-- Behind the second one. -/
def CutX (V w : World) (p p2 b1 : Nat) (F : Nat → Prop) (hb : Nat) (A1 : Ar) (v9 v10 v11 : Value) (wx : World) : Prop :=
  Upon F V wx ∧ ∃ gb, v9 = .pointer (some ⟨gb, 0, none⟩) ∧ v10 = .int .u64 0 ∧ v11 = .bool false ∧ Wd w p p2 b1 F A1 wx ∧ rowAt wx hb 24 [.int .i64 3, .int .i64 10, .int .i64 0, .int .i64 8] ∧ rowAt wx gb 24 [.int .i64 0, .int .i64 0, .int .i64 0, .int .i64 0]
theorem Wd.set {w : World} {p p2 b1 zb : Nat} {F : Nat → Prop} {A : Ar} {W : World} (h : Wd w p p2 b1 F A W) (hF : ¬ F zb) (hb : b1 ≠ zb) (hl : w.heap.size ≤ zb) {a c d e : Value} :
    Wd w p p2 b1 F A ((((W.setCell ⟨zb, 0, none⟩ a).setCell ⟨zb, 1, none⟩ c).setCell ⟨zb, 2, none⟩ d).setCell ⟨zb, 3, none⟩ e) := by
  have hu : Upon (fun k => k = zb) W _ := upon_set4 (S := fun k => k = zb) (w := W) (b := zb) rfl (a := a) (c := c) (d := d) (e := e)
  exact ⟨h.held.upon hu (fun k hk e => hF (e ▸ hk)), h.two.upon hu hb, h.nb, h.lo, h.fl, h.below.trans (hu.belowB h.below.size fun k e => by omega)⟩
theorem row_set4 {W : World} {zb : Nat} {T : TypeId} {a0 c0 d0 e0 a c d e : Value} (h : rowAt W zb T [a0, c0, d0, e0]) : rowAt ((((W.setCell ⟨zb, 0, none⟩ a).setCell ⟨zb, 1, none⟩ c).setCell ⟨zb, 2, none⟩ d).setCell ⟨zb, 3, none⟩ e) zb T [a, c, d, e] :=
  (((h.set 0 a).set 1 c).set 2 d).set 3 e
theorem cutW_last {w : World} {p p2 b1 : Nat} {F : Nat → Prop} {A1 : Ar} {X : List Ob} {w4 : World} (K : Wd w p p2 b1 F A1 w4) (h1 : A1.objs 3 10 0 8 = some X) (h2 : outP 0 X 100 [0] = some oneM) :
    CutW w p p2 b1 F (.pointer (some ⟨w4.heap.size, 0, none⟩)) (.int .u64 0) (.bool true) (w4.alloc (.cells #[.int .i64 3, .int .i64 10, .int .i64 0, .int .i64 8] 24)) :=
  ⟨_, A1, X, rfl, rfl, rfl, K.on (bl_alloc (Below.refl _ _) _), rowAt.made _ _ _, fun hf => by have := K.held.lt _ hf; omega, h1, h2⟩
theorem cutW_set {w : World} {p p2 b1 zb : Nat} {F : Nat → Prop} {A1 : Ar} {X : List Ob} {w4 : World} (K : Wd w p p2 b1 F A1 w4) (h1 : A1.objs 3 10 0 8 = some X) (h2 : outP 0 X 100 [0] = some oneM) {a c d e : Value} (hz : rowAt w4 zb 24 [a, c, d, e]) (hF : ¬ F zb) (hb : b1 ≠ zb) (hl : w.heap.size ≤ zb) :
    CutW w p p2 b1 F (.pointer (some ⟨zb, 0, none⟩)) (.int .u64 0) (.bool true) ((((w4.setCell ⟨zb, 0, none⟩ (.int .i64 3)).setCell ⟨zb, 1, none⟩ (.int .i64 10)).setCell ⟨zb, 2, none⟩ (.int .i64 0)).setCell ⟨zb, 3, none⟩ (.int .i64 8)) :=
  ⟨_, A1, X, rfl, rfl, rfl, K.set hF hb hl, row_set4 hz, hF, h1, h2⟩
theorem cutX_last {V w : World} {p p2 b1 hb : Nat} {F : Nat → Prop} {A1 : Ar} {w4 : World} (K : Wd w p p2 b1 F A1 w4) (hh : rowAt w4 hb 24 [.int .i64 3, .int .i64 10, .int .i64 0, .int .i64 8]) (hU : Upon F V w4) :
    CutX V w p p2 b1 F hb A1 (.pointer (some ⟨w4.heap.size, 0, none⟩)) (.int .u64 0) (.bool false) (w4.alloc (.cells #[.int .i64 0, .int .i64 0, .int .i64 0, .int .i64 0] 24)) :=
  ⟨hU.trans (Upon.alloc F _ _) (fun _ _ h => h), _, rfl, rfl, rfl, K.on (bl_alloc (Below.refl _ _) _), hh.alloc _, rowAt.made _ _ _⟩
theorem cutX_set {V w : World} {p p2 b1 hb zb : Nat} {F : Nat → Prop} {A1 : Ar} {w4 : World} (K : Wd w p p2 b1 F A1 w4) (hh : rowAt w4 hb 24 [.int .i64 3, .int .i64 10, .int .i64 0, .int .i64 8]) {a c d e : Value} (hz : rowAt w4 zb 24 [a, c, d, e]) (hF : ¬ F zb) (hb1 : b1 ≠ zb) (hb2 : hb ≠ zb) (hl : w.heap.size ≤ zb) (hU : Upon F V w4) (hV : V.heap.size ≤ zb) :
    CutX V w p p2 b1 F hb A1 (.pointer (some ⟨zb, 0, none⟩)) (.int .u64 0) (.bool false) ((((w4.setCell ⟨zb, 0, none⟩ (.int .i64 0)).setCell ⟨zb, 1, none⟩ (.int .i64 0)).setCell ⟨zb, 2, none⟩ (.int .i64 0)).setCell ⟨zb, 3, none⟩ (.int .i64 0)) :=
  ⟨hU.trans (T := fun k => k = zb) (upon_set4 (S := fun k => k = zb) rfl) (fun i hi e => by omega), _, rfl, rfl, rfl, K.set hF hb1 hl, hh.upon (S := fun k => k = zb) (upon_set4 (S := fun k => k = zb) rfl) hb2, row_set4 hz⟩
theorem wak_out {A1 : Ar} {X : List Ob} {w w' : World} {e : Ending} (h1 : A1.objs 3 10 0 8 = some X) (h2 : outP 0 X 100 [0] = some oneM)
    (h : OutT (match A1.objs 3 10 0 8 with | some obs => outP (0 * 10) obs 100 [0] | none => none) w e w') : Below w.heap.size w w' ∧ ∃ oa oc, e = .returned (.tuple #[.slice oa 5 oc, .bool true]) ∧ w'.ownsRow w.heap.size 51 4 (.slice oa 5 oc) 5 (ceL oneM) := by
  obtain ⟨hb, h⟩ := h
  refine ⟨hb, ?_⟩
  have e1 : (match A1.objs 3 10 0 8 with | some obs => outP (0 * 10) obs 100 [0] | none => none) = some oneM := by rw [h1]; exact h2
  rcases h with ⟨m, v, h3, h4, h5⟩ | ⟨h3, _⟩
  · rw [e1] at h3
    cases h3
    obtain ⟨oa, oc, rfl⟩ := owns_slice h5
    exact ⟨oa, oc, h4, h5⟩
  · rw [e1] at h3; cases h3
theorem wakF_at {w : World} {fb cap : Nat} (h : rowAt w fb 58 [.int .i64 6, .int .i64 1, .int .i64 0, .slice none 0 0, .int .i64 1, .int .i64 0, .int .i64 0, .slice none 0 0]) : fmsAt (fun _ => False) w (.slice (some ⟨fb, 0, none⟩) 2 cap) wakF := by
  refine ⟨_, _, rfl, .inr ⟨fb, 0, rfl, fun h => h, h.lt, fun k x hx => ?_⟩⟩
  match k with
  | 0 =>
    have e : x = (6, 1, 0, []) := by simpa [wakF] using hx.symm
    subst e
    exact ⟨h.cell 0, h.cell 1, h.cell 2, _, h.cell 3, ⟨_, _, rfl, .inl rfl⟩⟩
  | 1 =>
    have e : x = (1, 0, 0, []) := by simpa [wakF] using hx.symm
    subst e
    exact ⟨h.cell 4, h.cell 5, h.cell 6, _, h.cell 7, ⟨_, _, rfl, .inl rfl⟩⟩
  | k + 2 => simp [wakF] at hx
theorem wakF_fm : ∀ m ∈ wakF, fmF m := by
  intro m hm
  simp only [wakF, List.mem_cons, List.not_mem_nil, or_false] at hm
  rcases hm with rfl | rfl
  · exact ⟨by decide, by decide, by decide, fun c hc => (by cases hc), by decide⟩
  · exact ⟨by decide, by decide, by decide, fun c hc => (by cases hc), by decide⟩
/-- Fits over wakes' forms. -/
theorem wak_fits {S2 : Nat → Prop} {w : World} (T : OpTab w) {fb cap : Nat} (h : rowAt w fb 58 [.int .i64 6, .int .i64 1, .int .i64 0, .slice none 0 0, .int .i64 1, .int .i64 0, .int .i64 0, .slice none 0 0]) {vm : Value} {m : List PCe} (hm : rdAt S2 w vm m.length (ceL m)) (hg : goodMs m = true) {r : Bool} (hr : fitL wakF [0] m = r) :
    Calls Tryz.prog 22 #[.slice (some ⟨fb, 0, none⟩) 2 cap, .int .i64 0, vm] w fun e w' => e = .returned (.bool r) ∧ Below w.heap.size w w' := by
  have hfa := wakF_at (cap := cap) h
  have key := fits_go T hfa wakF_fm (by decide) 0 hm wak_forms (by decide) (by decide) hg (fun W hb j hj c hc => by
    have hW := fms_below hfa hb
    match j, hj with
    | 0, _ =>
      by_cases h0 : c = numCe 0
      · exact fit_6_nil hW (k := 0) rfl c h0
      · exact fit_6_two hW (k := 0) rfl c h0
    | 1, _ => exact fit_1 hW (k := 1) rfl c)
  rw [hr] at key
  exact key
theorem wak_fits2 {S2 : Nat → Prop} {w : World} (T : OpTab w) {fb cap : Nat} (h : rowAt w fb 58 [.int .i64 6, .int .i64 1, .int .i64 0, .slice none 0 0, .int .i64 1, .int .i64 0, .int .i64 0, .slice none 0 0]) {vm : Value} {m : List PCe} (hm : rdAt S2 w vm m.length (ceL m)) :
    Calls Tryz.prog 22 #[.slice (some ⟨fb, 0, none⟩) 2 cap, .int .i64 2, vm] w fun e w' => e = .returned (.bool false) ∧ Below w.heap.size w w' :=
  fits_no T (wakF_at (cap := cap) h) wakF_fm (by decide) 2 hm (by rw [show (decide ((0 : Int) ≤ 2 ∧ (2 : Int) < ((wakF.length : Nat) : Int))) = false by decide, Bool.false_and, Bool.and_false])
theorem make_twenty (w : World) : (Instr.makeSlice 22 (.int .i64 20) (.int .i64 20)).run Tryz.prog w = .ok (.slice (some ⟨w.heap.size, 0, none⟩) 20 20) (w.alloc (.cells ⟨wordsL (List.replicate 20 0)⟩ 42)) := make_words 20 (by omega) w
end Go.Proofs.YtffnafnkkbmnpaaGreatDoor

/-
  Layer 10's wakes.
  Conditions: the tables of op read as the program's text lays them (OpTab).
-/
namespace Go.Proofs.YtffnafnkkbmnpaaGreatDoor
set_option linter.unusedVariables false
set_option linter.unusedSimpArgs false
open Go.ChangeShapes Go.WideShapes Go.ChangeAt Go.RowKit
set_option maxRecDepth 100000

theorem rd_tailD {w : World} {g : Nat} (h : rowAt w g 51 (ceL oneM)) : rdAt (fun _ => False) w (.slice (some ⟨g, 4, none⟩) oneM.tail.length 4) oneM.tail.length (ceL oneM.tail) := by
  refine ⟨_, _, rfl, .inr ⟨g, 4, rfl, fun h => h, h.lt, fun j u hj => ?_⟩⟩
  rw [h.cell]
  have e4 : ceL oneM = ceC (blkCe 1 2) ++ ceL oneM.tail := by simp [ceL, oneM]
  rw [e4, List.getElem?_append_right (by simp [ceC]), show 4 + j - (ceC (blkCe 1 2)).length = j by simp [ceC]]
  exact hj
set_option maxHeartbeats 16000000 in
theorem dwakes_any (w : World) (T : OpTab w) :
    Calls Tryz.prog 8 #[] w fun e w' => e = .returned (.bool true) ∧ Below w.heap.size w w' := by
  have hmk := make_twenty
  have HT := Lib.hid T
  clear T
  go_enter Tryz.func8, Tryz.ntmps8
  go_wp2_with fail
  refine (lay_any _ _ (List.replicate 20 0) (readsAt.row (rest := []) (by rw [List.append_nil]; exact rowAt.made w _ _)) (fun x hx => by obtain rfl := List.eq_of_mem_replicate hx; exact ⟨by decide, by decide⟩) (by decide)).mono ?_
  rintro e w1 ⟨p, p2, F, G, rfl, h1, h2, h3, h4, h5, h6⟩
  clear h2 h3 h5
  have H1 := Lib.hid (show Held w1 p F dA0 from h1)
  have H4 := Lib.hid h4
  have H6 := Lib.hid (bl_call (bl_alloc (Below.refl w.heap.size w) (.cells ⟨wordsL (List.replicate 20 0)⟩ 42)) h6)
  have H4' := Lib.hid (fun k (hk : F k) => show w.heap.size ≤ k by have := h4 k hk; simp at this; omega)
  clear h1 h4 h6 hmk
  obtain ⟨W, hW⟩ : ∃ W, w1.alloc (.cells #[.pointer (some ⟨p, 0, none⟩), .pointer (some ⟨p2, 0, none⟩)] 33) = W := ⟨_, rfl⟩
  have K : Hid (Wd w p p2 w1.heap.size F dA0 W) := by
    have hb : Below w1.heap.size w1 W := by rw [← hW]; exact bl_alloc (Below.refl _ _) _
    exact ⟨H1.out.below hb, by rw [← hW]; exact rowAt.made _ _ _, fun hf => by have := H1.out.lt _ hf; omega, H6.out.size, H4'.out, bl_call H6.out hb⟩
  obtain ⟨b1, hb1⟩ : ∃ b1, w1.heap.size = b1 := ⟨_, rfl⟩
  rw [hb1] at K
  have a0 : W.cell? ⟨b1, 0, none⟩ = some (.pointer (some ⟨p, 0, none⟩)) := (K.out.two.cell 0).trans rfl
  have a1 : W.cell? ⟨b1, 1, none⟩ = some (.pointer (some ⟨p2, 0, none⟩)) := (K.out.two.cell 1).trans rfl
  have al := K.out.two.lt
  go_wp2_with fail
  clear hW
  go_upto_region 4 with fail
  go_cut [4, 5, 6] (fun v4 v5 v6 wx => CutW w p p2 b1 F v4 v5 v6 wx)
  case first =>
    have KD := Lib.hid (K.out.on (bl_drew (Below.refl _ _)))
    have KZ := Lib.hid (K.out.on (bl_alloc (Below.refl _ _) (.cells #[.int .i64 0, .int .i64 0, .int .i64 0, .int .i64 0] 24)))
    have KZD := Lib.hid (K.out.on (bl_drew (bl_alloc (Below.refl _ _) (.cells #[.int .i64 0, .int .i64 0, .int .i64 0, .int .i64 0] 24))))
    have G0 := Lib.hid (show (fun w' => w'.cell? ⟨b1, 0, none⟩ = some (.pointer (some ⟨p, 0, none⟩))) W from (K.out.two.cell 0).trans rfl)
    have G1 := Lib.hid (show (fun w' => w'.cell? ⟨b1, 0, none⟩ = some (.pointer (some ⟨p, 0, none⟩))) W.drew from (KD.out.two.cell 0).trans rfl)
    have G2 := Lib.hid (show (fun w' => w'.cell? ⟨b1, 0, none⟩ = some (.pointer (some ⟨p, 0, none⟩))) (W.alloc (.cells #[.int .i64 0, .int .i64 0, .int .i64 0, .int .i64 0] 24)) from (KZ.out.two.cell 0).trans rfl)
    have G3 := Lib.hid (show (fun w' => w'.cell? ⟨b1, 0, none⟩ = some (.pointer (some ⟨p, 0, none⟩))) (W.alloc (.cells #[.int .i64 0, .int .i64 0, .int .i64 0, .int .i64 0] 24)).drew from (KZD.out.two.cell 0).trans rfl)
    have IN5 := Lib.hid (fun (W' : World) (g : Nat) (hh : Held W' p F dA0) (hr : rowAt W' g 51 (ceL oneM)) (hg : ¬ F g) => show Calls Tryz.prog 13 #[.pointer (some ⟨p, 0, none⟩), .agg #[.int .i64 3, .int .i64 10, .int .i64 0, .int .i64 0], .slice (some ⟨g, 0, none⟩) 5 5] W' (InT dA0 3 10 0 0 oneM p F W') from in_any (m := oneM) (a := some ⟨g, 0, none⟩) (cap := 5) hh 3 10 0 0 (row_rd hr hg) (by decide))
    have LT := K.out.held.lt
    have NFL := Lib.hid LT
    clear LT
    have ZL := Lib.hid (show b1 < W.heap.size from K.out.two.lt)
    have ZB := Lib.hid (show w.heap.size ≤ W.heap.size from K.out.below.size)
    have nbW : b1 ≠ W.heap.size := by have := ZL.out; omega
    go_wp2_with fail
    go_region_held3 (fun w' => w'.cell? ⟨b1, 0, none⟩ = some (.pointer (some ⟨p, 0, none⟩)))
      (first | with_reducible exact G0.out | with_reducible exact G1.out | with_reducible exact G2.out | with_reducible exact G3.out | with_reducible exact Y3.out | with_reducible exact Y4.out | with_reducible exact Y5.out | with_reducible exact Y6.out | (simp [go_sem, y4, l4, nbW, nb3]; done))
      (first
      | (go_at_call 26
         with_reducible refine (one_any W.drew).mono ?_
         rintro e w3 ⟨rfl, hr3, b3⟩
         have K3 := Lib.hid (KD.out.on b3)
         have O3 := Lib.hid (show rowAt w3 W.heap.size 51 (ceL oneM) from hr3)
         have S3 : Hid (W.heap.size ≤ w3.heap.size) := Lib.hid (by have := b3.size; simp at this; omega)
         have nb3 : b1 ≠ w3.heap.size := by have := ZL.out; have := S3.out; omega
         have Y3 := Lib.hid (show (fun w' => w'.cell? ⟨b1, 0, none⟩ = some (.pointer (some ⟨p, 0, none⟩))) w3 from (K3.out.two.cell 0).trans rfl)
         have Y5 := Lib.hid (show (fun w' => w'.cell? ⟨b1, 0, none⟩ = some (.pointer (some ⟨p, 0, none⟩))) (w3.alloc (.cells #[.int .i64 0, .int .i64 0, .int .i64 0, .int .i64 0] 24)) from ((K3.out.on (bl_alloc (Below.refl _ _) (.cells #[.int .i64 0, .int .i64 0, .int .i64 0, .int .i64 0] 24))).two.cell 0).trans rfl)
         have Y6 := Lib.hid (show (fun w' => w'.cell? ⟨b1, 0, none⟩ = some (.pointer (some ⟨p, 0, none⟩))) (w3.alloc (.cells #[.int .i64 0, .int .i64 0, .int .i64 0, .int .i64 0] 24)).drew from ((K3.out.on (bl_drew (bl_alloc (Below.refl _ _) (.cells #[.int .i64 0, .int .i64 0, .int .i64 0, .int .i64 0] 24)))).two.cell 0).trans rfl)
         clear hr3 b3)
      | (go_at_call 26
         with_reducible refine (one_any (W.alloc (.cells #[.int .i64 0, .int .i64 0, .int .i64 0, .int .i64 0] 24)).drew).mono ?_
         rintro e w3 ⟨rfl, hr3, b3⟩
         have K3 := Lib.hid (KZD.out.on b3)
         have O3 := Lib.hid (show rowAt w3 (W.heap.size + 1) 51 (ceL oneM) by simpa using hr3)
         have S3 : Hid (W.heap.size ≤ w3.heap.size) := Lib.hid (by have := b3.size; simp at this; omega)
         have RZ3 := Lib.hid ((rowAt.made W 24 [.int .i64 0, .int .i64 0, .int .i64 0, .int .i64 0]).drew.below b3 (by simp))
         have nb3 : b1 ≠ w3.heap.size := by have := ZL.out; have := S3.out; omega
         have Y3 := Lib.hid (show (fun w' => w'.cell? ⟨b1, 0, none⟩ = some (.pointer (some ⟨p, 0, none⟩))) w3 from (K3.out.two.cell 0).trans rfl)
         have Y5 := Lib.hid (show (fun w' => w'.cell? ⟨b1, 0, none⟩ = some (.pointer (some ⟨p, 0, none⟩))) (w3.alloc (.cells #[.int .i64 0, .int .i64 0, .int .i64 0, .int .i64 0] 24)) from ((K3.out.on (bl_alloc (Below.refl _ _) (.cells #[.int .i64 0, .int .i64 0, .int .i64 0, .int .i64 0] 24))).two.cell 0).trans rfl)
         have Y6 := Lib.hid (show (fun w' => w'.cell? ⟨b1, 0, none⟩ = some (.pointer (some ⟨p, 0, none⟩))) (w3.alloc (.cells #[.int .i64 0, .int .i64 0, .int .i64 0, .int .i64 0] 24)).drew from ((K3.out.on (bl_drew (bl_alloc (Below.refl _ _) (.cells #[.int .i64 0, .int .i64 0, .int .i64 0, .int .i64 0] 24)))).two.cell 0).trans rfl)
         clear hr3 b3)
      | (go_at_call 13
         have RZ := RZ3.out
         with_reducible refine (IN5.out w3 _ K3.out.held O3.out (fun hf => by have := NFL.out _ hf; omega)).mono ?_
         rintro e w4 hin
         obtain ⟨hs4, A1, X, rfl, hh4, ho4, hp4⟩ := wak_in dA0_objs hin
         have K4 := Lib.hid (K3.out.step hs4 hh4)
         have RZ4 := Lib.hid (RZ.upon hs4.upon (fun hf => by have := NFL.out _ hf; have := S3.out; omega))
         obtain ⟨z0, z1, z2, z3⟩ := cells4 RZ4.out
         have f0 := RZ4.out.free 0
         have f1 := RZ4.out.free 1
         have f2 := RZ4.out.free 2
         have f3 := RZ4.out.free 3
         have lz := RZ4.out.lt
         have Y4 := Lib.hid (show (fun w' => w'.cell? ⟨b1, 0, none⟩ = some (.pointer (some ⟨p, 0, none⟩))) w4 from (K4.out.two.cell 0).trans rfl)
         have y4 := Y4.out
         have l4 := K4.out.two.lt
         have HO4 := Lib.hid ho4
         have HP4 := Lib.hid hp4
         clear hin hs4 hh4 ho4 hp4)
      | (go_at_call 13
         with_reducible refine (IN5.out w3 _ K3.out.held O3.out (fun hf => by have := NFL.out _ hf; omega)).mono ?_
         rintro e w4 hin
         obtain ⟨hs4, A1, X, rfl, hh4, ho4, hp4⟩ := wak_in dA0_objs hin
         have K4 := Lib.hid (K3.out.step hs4 hh4)
         have Y4 := Lib.hid (show (fun w' => w'.cell? ⟨b1, 0, none⟩ = some (.pointer (some ⟨p, 0, none⟩))) w4 from (K4.out.two.cell 0).trans rfl)
         have y4 := Y4.out
         have l4 := K4.out.two.lt
         have HO4 := Lib.hid ho4
         have HP4 := Lib.hid hp4
         clear hin hs4 hh4 ho4 hp4)
      | (go_at_call 13
         with_reducible refine (IN5.out (w3.alloc (.cells #[.int .i64 0, .int .i64 0, .int .i64 0, .int .i64 0] 24)) _ (K3.out.on (bl_alloc (Below.refl _ _) (.cells #[.int .i64 0, .int .i64 0, .int .i64 0, .int .i64 0] 24))).held (O3.out.alloc (.cells #[.int .i64 0, .int .i64 0, .int .i64 0, .int .i64 0] 24)) (fun hf => by have := NFL.out _ hf; omega)).mono ?_
         rintro e w4 hin
         obtain ⟨hs4, A1, X, rfl, hh4, ho4, hp4⟩ := wak_in dA0_objs hin
         have K4 := Lib.hid ((K3.out.on (bl_alloc (Below.refl _ _) (.cells #[.int .i64 0, .int .i64 0, .int .i64 0, .int .i64 0] 24))).step hs4 hh4)
         have RZ4 := Lib.hid ((rowAt.made w3 24 [.int .i64 0, .int .i64 0, .int .i64 0, .int .i64 0]).upon hs4.upon (fun hf => by have := NFL.out _ hf; have := S3.out; omega))
         obtain ⟨z0, z1, z2, z3⟩ := cells4 RZ4.out
         have f0 := RZ4.out.free 0
         have f1 := RZ4.out.free 1
         have f2 := RZ4.out.free 2
         have f3 := RZ4.out.free 3
         have lz := RZ4.out.lt
         have Y4 := Lib.hid (show (fun w' => w'.cell? ⟨b1, 0, none⟩ = some (.pointer (some ⟨p, 0, none⟩))) w4 from (K4.out.two.cell 0).trans rfl)
         have y4 := Y4.out
         have l4 := K4.out.two.lt
         have HO4 := Lib.hid ho4
         have HP4 := Lib.hid hp4
         clear hin hs4 hh4 ho4 hp4))
    all_goals
      go_wp2_with fail
      go_meet
      first
        | exact cutW_last K4.out HO4.out HP4.out
        | exact cutW_set K4.out HO4.out HP4.out RZ4.out (fun hf => by have := NFL.out _ hf; have := S3.out; omega) (by have := ZL.out; have := S3.out; omega) (by have := ZB.out; have := S3.out; omega)
  case rest =>
    obtain ⟨hb, A1, X, rfl, rfl, rfl, hk, hh, nfh, ho, hp⟩ := hcut
    have K1 := Lib.hid hk
    have HV0 := Lib.hid hh
    have HN := Lib.hid nfh
    have O1 := Lib.hid ho
    have HP := Lib.hid hp
    have e0 : wc.cell? ⟨b1, 0, none⟩ = some (.pointer (some ⟨p, 0, none⟩)) := (K1.out.two.cell 0).trans rfl
    obtain ⟨h0, h1, h2, h3⟩ := cells4 HV0.out
    clear hk hh nfh ho hp K a0 a1 al
    go_wp2_with fail
    refine (out_any K1.out.held 3 10 0 8 0 ⟨by decide, by decide⟩).mono ?_
    rintro e V hout
    obtain ⟨bV, oa, oc, rfl, hom⟩ := wak_out O1.out HP.out hout
    have KV := Lib.hid (K1.out.on bV)
    have HV := Lib.hid (HV0.out.below bV HV0.out.lt)
    have RM : Hid (rdAt (fun k => F k ∨ V.heap.size ≤ k) V (.slice oa 5 oc) 5 (ceL oneM)) := Lib.hid (rdAt.of_owns hom (fun g hg hk => by
      have h1 := (hom.lt g hg)
      rcases hk with hk | hk
      · have := K1.out.held.lt _ hk; omega
      · omega))
    clear hout bV hom e0 h0 h1 h2 h3
    go_upto_region 6 with fail
    go_cut [9, 10, 11] (fun v9 v10 v11 wx => CutX V w p p2 b1 F hb A1 v9 v10 v11 wx)
    case first =>
      have KD := Lib.hid (KV.out.on (bl_drew (Below.refl _ _)))
      have KZ := Lib.hid (KV.out.on (bl_alloc (Below.refl _ _) (.cells #[.int .i64 0, .int .i64 0, .int .i64 0, .int .i64 0] 24)))
      have KZD := Lib.hid (KV.out.on (bl_drew (bl_alloc (Below.refl _ _) (.cells #[.int .i64 0, .int .i64 0, .int .i64 0, .int .i64 0] 24))))
      have G0 := Lib.hid (show (fun w' => w'.cell? ⟨b1, 0, none⟩ = some (.pointer (some ⟨p, 0, none⟩)) ∧ w'.cell? ⟨hb, 0, none⟩ = some (.int .i64 3) ∧ w'.cell? ⟨hb, 1, none⟩ = some (.int .i64 10) ∧ w'.cell? ⟨hb, 2, none⟩ = some (.int .i64 0) ∧ w'.cell? ⟨hb, 3, none⟩ = some (.int .i64 8)) V from And.intro ((KV.out.two.cell 0).trans rfl) (cells4 HV.out))
      have G1 := Lib.hid (show (fun w' => w'.cell? ⟨b1, 0, none⟩ = some (.pointer (some ⟨p, 0, none⟩)) ∧ w'.cell? ⟨hb, 0, none⟩ = some (.int .i64 3) ∧ w'.cell? ⟨hb, 1, none⟩ = some (.int .i64 10) ∧ w'.cell? ⟨hb, 2, none⟩ = some (.int .i64 0) ∧ w'.cell? ⟨hb, 3, none⟩ = some (.int .i64 8)) V.drew from And.intro ((KD.out.two.cell 0).trans rfl) (cells4 HV.out.drew))
      have G2 := Lib.hid (show (fun w' => w'.cell? ⟨b1, 0, none⟩ = some (.pointer (some ⟨p, 0, none⟩)) ∧ w'.cell? ⟨hb, 0, none⟩ = some (.int .i64 3) ∧ w'.cell? ⟨hb, 1, none⟩ = some (.int .i64 10) ∧ w'.cell? ⟨hb, 2, none⟩ = some (.int .i64 0) ∧ w'.cell? ⟨hb, 3, none⟩ = some (.int .i64 8)) (V.alloc (.cells #[.int .i64 0, .int .i64 0, .int .i64 0, .int .i64 0] 24)) from And.intro ((KZ.out.two.cell 0).trans rfl) (cells4 (HV.out.alloc (.cells #[.int .i64 0, .int .i64 0, .int .i64 0, .int .i64 0] 24))))
      have G3 := Lib.hid (show (fun w' => w'.cell? ⟨b1, 0, none⟩ = some (.pointer (some ⟨p, 0, none⟩)) ∧ w'.cell? ⟨hb, 0, none⟩ = some (.int .i64 3) ∧ w'.cell? ⟨hb, 1, none⟩ = some (.int .i64 10) ∧ w'.cell? ⟨hb, 2, none⟩ = some (.int .i64 0) ∧ w'.cell? ⟨hb, 3, none⟩ = some (.int .i64 8)) (V.alloc (.cells #[.int .i64 0, .int .i64 0, .int .i64 0, .int .i64 0] 24)).drew from And.intro ((KZD.out.two.cell 0).trans rfl) (cells4 (HV.out.alloc (.cells #[.int .i64 0, .int .i64 0, .int .i64 0, .int .i64 0] 24)).drew))
      have IN5 := Lib.hid (fun (W' : World) (g : Nat) (hh : Held W' p F A1) (hr : rowAt W' g 51 (ceL oneM)) (hg : ¬ F g) => show Calls Tryz.prog 13 #[.pointer (some ⟨p, 0, none⟩), .agg #[.int .i64 3, .int .i64 10, .int .i64 0, .int .i64 8], .slice (some ⟨g, 0, none⟩) 5 5] W' (InT A1 3 10 0 8 oneM p F W') from in_any (m := oneM) (a := some ⟨g, 0, none⟩) (cap := 5) hh 3 10 0 8 (row_rd hr hg) (by decide))
      have LT := KV.out.held.lt
      have NFL := Lib.hid LT
      clear LT
      have ZL := Lib.hid (show b1 < V.heap.size from KV.out.two.lt)
      have ZB := Lib.hid (show w.heap.size ≤ V.heap.size from KV.out.below.size)
      have nhW : hb ≠ V.heap.size := by have := HV.out.lt; omega
      have nbW : b1 ≠ V.heap.size := by have := ZL.out; omega
      go_wp2_with fail
      go_region_held3 (fun w' => w'.cell? ⟨b1, 0, none⟩ = some (.pointer (some ⟨p, 0, none⟩)) ∧ w'.cell? ⟨hb, 0, none⟩ = some (.int .i64 3) ∧ w'.cell? ⟨hb, 1, none⟩ = some (.int .i64 10) ∧ w'.cell? ⟨hb, 2, none⟩ = some (.int .i64 0) ∧ w'.cell? ⟨hb, 3, none⟩ = some (.int .i64 8))
        (first | with_reducible exact G0.out | with_reducible exact G1.out | with_reducible exact G2.out | with_reducible exact G3.out | with_reducible exact Y3.out | with_reducible exact Y4.out | with_reducible exact Y5.out | with_reducible exact Y6.out | ((refine ⟨?_, ?_, ?_, ?_, ?_⟩ <;> simp [go_sem, y4, l4, l5, h0, h1, h2, h3, nbW, nb3, nhW, nh3]); done))
        (first
        | (go_at_call 26
           with_reducible refine (one_any V.drew).mono ?_
           rintro e w3 ⟨rfl, hr3, b3⟩
           have K3 := Lib.hid (KD.out.on b3)
           have O3 := Lib.hid (show rowAt w3 V.heap.size 51 (ceL oneM) from hr3)
           have HV3 := Lib.hid (HV.out.drew.below b3 HV.out.lt)
           have B3 := Lib.hid (bl_call (bl_drew (Below.refl V.heap.size V)) b3)
           have nh3 : hb ≠ w3.heap.size := by have := HV3.out.lt; omega
           have S3 : Hid (V.heap.size ≤ w3.heap.size) := Lib.hid (by have := b3.size; simp at this; omega)
           have nb3 : b1 ≠ w3.heap.size := by have := ZL.out; have := S3.out; omega
           have Y3 := Lib.hid (show (fun w' => w'.cell? ⟨b1, 0, none⟩ = some (.pointer (some ⟨p, 0, none⟩)) ∧ w'.cell? ⟨hb, 0, none⟩ = some (.int .i64 3) ∧ w'.cell? ⟨hb, 1, none⟩ = some (.int .i64 10) ∧ w'.cell? ⟨hb, 2, none⟩ = some (.int .i64 0) ∧ w'.cell? ⟨hb, 3, none⟩ = some (.int .i64 8)) w3 from And.intro ((K3.out.two.cell 0).trans rfl) (cells4 HV3.out))
           have Y5 := Lib.hid (show (fun w' => w'.cell? ⟨b1, 0, none⟩ = some (.pointer (some ⟨p, 0, none⟩)) ∧ w'.cell? ⟨hb, 0, none⟩ = some (.int .i64 3) ∧ w'.cell? ⟨hb, 1, none⟩ = some (.int .i64 10) ∧ w'.cell? ⟨hb, 2, none⟩ = some (.int .i64 0) ∧ w'.cell? ⟨hb, 3, none⟩ = some (.int .i64 8)) (w3.alloc (.cells #[.int .i64 0, .int .i64 0, .int .i64 0, .int .i64 0] 24)) from And.intro (((K3.out.on (bl_alloc (Below.refl _ _) (.cells #[.int .i64 0, .int .i64 0, .int .i64 0, .int .i64 0] 24))).two.cell 0).trans rfl) (cells4 (HV3.out.alloc (.cells #[.int .i64 0, .int .i64 0, .int .i64 0, .int .i64 0] 24))))
           have Y6 := Lib.hid (show (fun w' => w'.cell? ⟨b1, 0, none⟩ = some (.pointer (some ⟨p, 0, none⟩)) ∧ w'.cell? ⟨hb, 0, none⟩ = some (.int .i64 3) ∧ w'.cell? ⟨hb, 1, none⟩ = some (.int .i64 10) ∧ w'.cell? ⟨hb, 2, none⟩ = some (.int .i64 0) ∧ w'.cell? ⟨hb, 3, none⟩ = some (.int .i64 8)) (w3.alloc (.cells #[.int .i64 0, .int .i64 0, .int .i64 0, .int .i64 0] 24)).drew from And.intro (((K3.out.on (bl_drew (bl_alloc (Below.refl _ _) (.cells #[.int .i64 0, .int .i64 0, .int .i64 0, .int .i64 0] 24)))).two.cell 0).trans rfl) (cells4 (HV3.out.alloc (.cells #[.int .i64 0, .int .i64 0, .int .i64 0, .int .i64 0] 24)).drew))
           clear hr3 b3)
        | (go_at_call 26
           with_reducible refine (one_any (V.alloc (.cells #[.int .i64 0, .int .i64 0, .int .i64 0, .int .i64 0] 24)).drew).mono ?_
           rintro e w3 ⟨rfl, hr3, b3⟩
           have K3 := Lib.hid (KZD.out.on b3)
           have O3 := Lib.hid (show rowAt w3 (V.heap.size + 1) 51 (ceL oneM) by simpa using hr3)
           have HV3 := Lib.hid ((HV.out.alloc (.cells #[.int .i64 0, .int .i64 0, .int .i64 0, .int .i64 0] 24)).drew.below b3 (HV.out.alloc (.cells #[.int .i64 0, .int .i64 0, .int .i64 0, .int .i64 0] 24)).lt)
           have B3 := Lib.hid (bl_call (bl_drew (bl_alloc (Below.refl V.heap.size V) (.cells #[.int .i64 0, .int .i64 0, .int .i64 0, .int .i64 0] 24))) b3)
           have nh3 : hb ≠ w3.heap.size := by have := HV3.out.lt; omega
           have S3 : Hid (V.heap.size ≤ w3.heap.size) := Lib.hid (by have := b3.size; simp at this; omega)
           have RZ3 := Lib.hid ((rowAt.made V 24 [.int .i64 0, .int .i64 0, .int .i64 0, .int .i64 0]).drew.below b3 (by simp))
           have nb3 : b1 ≠ w3.heap.size := by have := ZL.out; have := S3.out; omega
           have Y3 := Lib.hid (show (fun w' => w'.cell? ⟨b1, 0, none⟩ = some (.pointer (some ⟨p, 0, none⟩)) ∧ w'.cell? ⟨hb, 0, none⟩ = some (.int .i64 3) ∧ w'.cell? ⟨hb, 1, none⟩ = some (.int .i64 10) ∧ w'.cell? ⟨hb, 2, none⟩ = some (.int .i64 0) ∧ w'.cell? ⟨hb, 3, none⟩ = some (.int .i64 8)) w3 from And.intro ((K3.out.two.cell 0).trans rfl) (cells4 HV3.out))
           have Y5 := Lib.hid (show (fun w' => w'.cell? ⟨b1, 0, none⟩ = some (.pointer (some ⟨p, 0, none⟩)) ∧ w'.cell? ⟨hb, 0, none⟩ = some (.int .i64 3) ∧ w'.cell? ⟨hb, 1, none⟩ = some (.int .i64 10) ∧ w'.cell? ⟨hb, 2, none⟩ = some (.int .i64 0) ∧ w'.cell? ⟨hb, 3, none⟩ = some (.int .i64 8)) (w3.alloc (.cells #[.int .i64 0, .int .i64 0, .int .i64 0, .int .i64 0] 24)) from And.intro (((K3.out.on (bl_alloc (Below.refl _ _) (.cells #[.int .i64 0, .int .i64 0, .int .i64 0, .int .i64 0] 24))).two.cell 0).trans rfl) (cells4 (HV3.out.alloc (.cells #[.int .i64 0, .int .i64 0, .int .i64 0, .int .i64 0] 24))))
           have Y6 := Lib.hid (show (fun w' => w'.cell? ⟨b1, 0, none⟩ = some (.pointer (some ⟨p, 0, none⟩)) ∧ w'.cell? ⟨hb, 0, none⟩ = some (.int .i64 3) ∧ w'.cell? ⟨hb, 1, none⟩ = some (.int .i64 10) ∧ w'.cell? ⟨hb, 2, none⟩ = some (.int .i64 0) ∧ w'.cell? ⟨hb, 3, none⟩ = some (.int .i64 8)) (w3.alloc (.cells #[.int .i64 0, .int .i64 0, .int .i64 0, .int .i64 0] 24)).drew from And.intro (((K3.out.on (bl_drew (bl_alloc (Below.refl _ _) (.cells #[.int .i64 0, .int .i64 0, .int .i64 0, .int .i64 0] 24)))).two.cell 0).trans rfl) (cells4 (HV3.out.alloc (.cells #[.int .i64 0, .int .i64 0, .int .i64 0, .int .i64 0] 24)).drew))
           clear hr3 b3)
        | (go_at_call 13
           have RZ := RZ3.out
           with_reducible refine (IN5.out w3 _ K3.out.held O3.out (fun hf => by have := NFL.out _ hf; omega)).mono ?_
           rintro e w4 hin
           obtain ⟨hs4, rfl, hh4⟩ := wak_in2 O1.out hin
           have HV4 := Lib.hid (HV3.out.upon hs4.upon HN.out)
           have U4 := Lib.hid ((Upon.of_below (S := F) B3.out).trans hs4.upon (fun _ _ h => h))
           have K4 := Lib.hid (K3.out.step hs4 hh4)
           have RZ4 := Lib.hid (RZ.upon hs4.upon (fun hf => by have := NFL.out _ hf; have := S3.out; omega))
           obtain ⟨z0, z1, z2, z3⟩ := cells4 RZ4.out
           have f0 := RZ4.out.free 0
           have f1 := RZ4.out.free 1
           have f2 := RZ4.out.free 2
           have f3 := RZ4.out.free 3
           have lz := RZ4.out.lt
           have Y4 := Lib.hid (show (fun w' => w'.cell? ⟨b1, 0, none⟩ = some (.pointer (some ⟨p, 0, none⟩)) ∧ w'.cell? ⟨hb, 0, none⟩ = some (.int .i64 3) ∧ w'.cell? ⟨hb, 1, none⟩ = some (.int .i64 10) ∧ w'.cell? ⟨hb, 2, none⟩ = some (.int .i64 0) ∧ w'.cell? ⟨hb, 3, none⟩ = some (.int .i64 8)) w4 from And.intro ((K4.out.two.cell 0).trans rfl) (cells4 HV4.out))
           obtain ⟨y4, h0, h1, h2, h3⟩ := Y4.out
           have l4 := K4.out.two.lt
           have l5 := HV4.out.lt
           clear hin hs4 hh4)
        | (go_at_call 13
           with_reducible refine (IN5.out w3 _ K3.out.held O3.out (fun hf => by have := NFL.out _ hf; omega)).mono ?_
           rintro e w4 hin
           obtain ⟨hs4, rfl, hh4⟩ := wak_in2 O1.out hin
           have HV4 := Lib.hid (HV3.out.upon hs4.upon HN.out)
           have U4 := Lib.hid ((Upon.of_below (S := F) B3.out).trans hs4.upon (fun _ _ h => h))
           have K4 := Lib.hid (K3.out.step hs4 hh4)
           have Y4 := Lib.hid (show (fun w' => w'.cell? ⟨b1, 0, none⟩ = some (.pointer (some ⟨p, 0, none⟩)) ∧ w'.cell? ⟨hb, 0, none⟩ = some (.int .i64 3) ∧ w'.cell? ⟨hb, 1, none⟩ = some (.int .i64 10) ∧ w'.cell? ⟨hb, 2, none⟩ = some (.int .i64 0) ∧ w'.cell? ⟨hb, 3, none⟩ = some (.int .i64 8)) w4 from And.intro ((K4.out.two.cell 0).trans rfl) (cells4 HV4.out))
           obtain ⟨y4, h0, h1, h2, h3⟩ := Y4.out
           have l4 := K4.out.two.lt
           have l5 := HV4.out.lt
           clear hin hs4 hh4)
        | (go_at_call 13
           with_reducible refine (IN5.out (w3.alloc (.cells #[.int .i64 0, .int .i64 0, .int .i64 0, .int .i64 0] 24)) _ (K3.out.on (bl_alloc (Below.refl _ _) (.cells #[.int .i64 0, .int .i64 0, .int .i64 0, .int .i64 0] 24))).held (O3.out.alloc (.cells #[.int .i64 0, .int .i64 0, .int .i64 0, .int .i64 0] 24)) (fun hf => by have := NFL.out _ hf; omega)).mono ?_
           rintro e w4 hin
           obtain ⟨hs4, rfl, hh4⟩ := wak_in2 O1.out hin
           have HV4 := Lib.hid ((HV3.out.alloc (.cells #[.int .i64 0, .int .i64 0, .int .i64 0, .int .i64 0] 24)).upon hs4.upon HN.out)
           have U4 := Lib.hid ((Upon.of_below (S := F) (bl_alloc B3.out (.cells #[.int .i64 0, .int .i64 0, .int .i64 0, .int .i64 0] 24))).trans hs4.upon (fun _ _ h => h))
           have K4 := Lib.hid ((K3.out.on (bl_alloc (Below.refl _ _) (.cells #[.int .i64 0, .int .i64 0, .int .i64 0, .int .i64 0] 24))).step hs4 hh4)
           have RZ4 := Lib.hid ((rowAt.made w3 24 [.int .i64 0, .int .i64 0, .int .i64 0, .int .i64 0]).upon hs4.upon (fun hf => by have := NFL.out _ hf; have := S3.out; omega))
           obtain ⟨z0, z1, z2, z3⟩ := cells4 RZ4.out
           have f0 := RZ4.out.free 0
           have f1 := RZ4.out.free 1
           have f2 := RZ4.out.free 2
           have f3 := RZ4.out.free 3
           have lz := RZ4.out.lt
           have Y4 := Lib.hid (show (fun w' => w'.cell? ⟨b1, 0, none⟩ = some (.pointer (some ⟨p, 0, none⟩)) ∧ w'.cell? ⟨hb, 0, none⟩ = some (.int .i64 3) ∧ w'.cell? ⟨hb, 1, none⟩ = some (.int .i64 10) ∧ w'.cell? ⟨hb, 2, none⟩ = some (.int .i64 0) ∧ w'.cell? ⟨hb, 3, none⟩ = some (.int .i64 8)) w4 from And.intro ((K4.out.two.cell 0).trans rfl) (cells4 HV4.out))
           obtain ⟨y4, h0, h1, h2, h3⟩ := Y4.out
           have l4 := K4.out.two.lt
           have l5 := HV4.out.lt
           clear hin hs4 hh4))
      all_goals
        go_wp2_with fail
        go_meet
        first
          | exact cutX_last K4.out HV4.out U4.out
          | exact cutX_set K4.out HV4.out RZ4.out (fun hf => by have := NFL.out _ hf; have := S3.out; omega) (by have := ZL.out; have := S3.out; omega) (by have := HV.out.lt; have := S3.out; omega) (by have := ZB.out; have := S3.out; omega) U4.out (by have := S3.out; omega)
    case rest =>
      obtain ⟨hu, gb, rfl, rfl, rfl, hk2, hh2, hg2⟩ := hcut
      obtain ⟨W1, hW1⟩ : ∃ W1, wc.alloc (.cells #[.int .i64 6, .int .i64 1, .int .i64 0, .slice none 0 0, .int .i64 1, .int .i64 0, .int .i64 0, .slice none 0 0] 58) = W1 := ⟨_, rfl⟩
      obtain ⟨W2, hW2⟩ : ∃ W2, W1.alloc (.cells #[.int .i64 1, .int .i64 1, .int .i64 2, .string ⟨#[]⟩, .int .i64 0, .int .i64 0, .int .i64 1, .string ⟨#[]⟩, .int .i64 0, .int .i64 0, .int .i64 0, .string ⟨#[]⟩] 51) = W2 := ⟨_, rfl⟩
      have bw1 : Below wc.heap.size wc W1 := by rw [← hW1]; exact bl_alloc (Below.refl _ _) _
      have bw2 : Below W1.heap.size W1 W2 := by rw [← hW2]; exact bl_alloc (Below.refl _ _) _
      have bw := bl_call bw1 bw2
      have FR0 : rowAt W1 wc.heap.size 58 [.int .i64 6, .int .i64 1, .int .i64 0, .slice none 0 0, .int .i64 1, .int .i64 0, .int .i64 0, .slice none 0 0] := by rw [← hW1]; exact rowAt.made _ _ _
      have FR := Lib.hid (FR0.below bw2 FR0.lt)
      have LR := Lib.hid (show rowAt W2 W1.heap.size 51 (ceL twoM) by rw [← hW2]; exact rowAt.made _ _ _)
      have HX := Lib.hid (hh2.below bw hh2.lt)
      have GX := Lib.hid (hg2.below bw hg2.lt)
      have RX := Lib.hid ((RM.out.upon hu (fun k _ hk => .inl hk)).below bw)
      have BX := Lib.hid (bl_call hk2.below bw)
      have TX := Lib.hid (HT.out.below BX.out)
      have B0 := Lib.hid (Below.refl W2.heap.size W2)
      obtain ⟨h0, h1, h2, h3⟩ := cells4 HX.out
      obtain ⟨g0, g1, g2, g3⟩ := cells4 GX.out
      have lh := HX.out.lt
      have lg := GX.out.lt
      clear hu hk2 hh2 hg2 bw1 bw2 bw FR0
      have q1 : ∀ w, (Op.equalIn 10000 24 (.agg #[.int .i64 0, .int .i64 0, .int .i64 0, .int .i64 0]) (.agg #[.int .i64 0, .int .i64 0, .int .i64 0, .int .i64 0])).run Tryz.prog w = .ok true w := fun w => by kernel_rfl
      have hsl : ∀ (g : Nat) W, (Instr.slice 41 (.slice (some ⟨g, 0, none⟩) 5 5) (some (.int .i64 1)) none none).run Tryz.prog W = .ok (.slice (some ⟨g, 4, none⟩) 4 4) W := fun g W => by
        obtain ⟨ic, hic, hc0, hc1, hc2⟩ := info_parts info_cell
        have h := run_slice_from_w (P := Tryz.prog) 41 51 under_cells hic (some ⟨g, 0, none⟩) (n := 5) (c := 5) (k := 1) (by omega) W
        rw [hc1] at h
        exact h
      go_wp2_with fail
      clear hW1 hW2
      refine (one_any _).mono ?_
      rintro e v1 ⟨rfl, hr, hb1⟩
      have O1 := Lib.hid hr
      have B1 := Lib.hid (bl_call B0.out hb1)
      clear hr hb1
      go_wp2_with fail
      refine (keepMessage_is (xs := oneM) (ys := oneM) (RX.out.below B1.out) (row_rd (F := fun _ => False) O1.out (fun h => h)) (by decide) (B := true) (by simp)).mono ?_
      rintro e v2 ⟨rfl, hb2⟩
      have B2 := Lib.hid (bl_call B1.out hb2)
      clear hb2
      obtain ⟨g0, g1, g2, g3⟩ := cells4 (GX.out.below B2.out GX.out.lt)
      have lg2 := (GX.out.below B2.out GX.out.lt).lt
      go_wp2_with fail
      refine (one_any _).mono ?_
      rintro e v3 ⟨rfl, hr, hb3⟩
      have O3 := Lib.hid hr
      have B3 := Lib.hid (bl_call B2.out hb3)
      clear hr hb3
      go_wp2_with fail
      refine (dwords_is (m := oneM) (n := 8) (by decide +kernel) (row_rd (F := fun _ => False) O3.out (fun h => h))).mono ?_
      rintro e v4 ⟨rfl, hb4⟩
      have B4 := Lib.hid (bl_call B3.out hb4)
      clear hb4
      go_wp2_with fail
      refine (one_any _).mono ?_
      rintro e v5 ⟨rfl, hr, hb5⟩
      have O5 := Lib.hid hr
      have B5 := Lib.hid (bl_call B4.out hb5)
      clear hr hb5
      go_wp2_with fail
      refine (dgood_is one_good (row_rd (F := fun _ => False) O5.out (fun h => h))).mono ?_
      rintro e v6 ⟨rfl, hb6⟩
      have B6 := Lib.hid (bl_call B5.out hb6)
      clear hb6
      go_wp2_with fail
      refine (one_any _).mono ?_
      rintro e v7 ⟨rfl, hr, hb7⟩
      have O7 := Lib.hid hr
      have B7 := Lib.hid (bl_call B6.out hb7)
      clear hr hb7
      go_wp2_with fail
      refine (dgood_is (m := oneM.tail) one_tail (rd_tailD O7.out)).mono ?_
      rintro e v8 ⟨rfl, hb8⟩
      have B8 := Lib.hid (bl_call B7.out hb8)
      clear hb8
      go_wp2_with fail
      refine (wak_fits (m := twoM) (TX.out.below B8.out) (FR.out.below B8.out FR.out.lt) (row_rd (F := fun _ => False) (LR.out.below B8.out LR.out.lt) (fun h => h)) two_good wak_yes).mono ?_
      rintro e v9 ⟨rfl, hb9⟩
      have B9 := Lib.hid (bl_call B8.out hb9)
      clear hb9
      go_wp2_with fail
      refine (one_any _).mono ?_
      rintro e v10 ⟨rfl, hr, hb10⟩
      have O10 := Lib.hid hr
      have B10 := Lib.hid (bl_call B9.out hb10)
      clear hr hb10
      go_wp2_with fail
      refine (wak_fits (m := oneM) (TX.out.below B10.out) (FR.out.below B10.out FR.out.lt) (row_rd (F := fun _ => False) O10.out (fun h => h)) one_good wak_no).mono ?_
      rintro e v11 ⟨rfl, hb11⟩
      have B11 := Lib.hid (bl_call B10.out hb11)
      clear hb11
      go_wp2_with fail
      refine (wak_fits2 (m := twoM) (TX.out.below B11.out) (FR.out.below B11.out FR.out.lt) (row_rd (F := fun _ => False) (LR.out.below B11.out LR.out.lt) (fun h => h))).mono ?_
      rintro e v12 ⟨rfl, hb12⟩
      have B12 := Lib.hid (bl_call B11.out hb12)
      clear hb12
      go_wp2_with fail
      go_ret
      exact ⟨rfl, bl_call BX.out B12.out⟩
end Go.Proofs.YtffnafnkkbmnpaaGreatDoor

/-
  For every two messages the law DataPairs returns true, and its arguments read as they did. Condition: the three tables of package op read when the call begins as the program's text lays them (the card ties them).
-/
namespace Go.Proofs.YtffnafnkkbmnpaaGreatDoor.dataPairs
set_option linter.unusedVariables false
set_option linter.unusedSimpArgs false
open Go.ChangeShapes Go.WideShapes Go.ChangeAt Go.RowKit
set_option maxRecDepth 100000

theorem own : ownKnob Tryz.prog.godebug = none := by kernel_rfl
theorem laidOut : laidOutB Tryz.prog = true := by kernel_rfl

theorem rgood_is {S : Nat → Prop} {w : World} {v : Value} {m : List PCe} {b : Bool} (hb : goodMs m = b) (h : rdAt S w v m.length (ceL m)) :
    Calls Tryz.prog 14 #[v] w fun e w' => e = .returned (.bool b) ∧ Below w.heap.size w w' := hb ▸ rgoodMs_any h
theorem rd_src {S : Nat → Prop} {w : World} {a : Option Addr} {c n : Nat} {cs : List Value} (h : rdAt S w (.slice a n c) n cs) : n = 0 ∨ ∃ ad, a = some ad ∧ ∀ j u, cs[j]? = some u → w.cell? (ad.add j) = some u := by
  obtain ⟨a', c', e, h⟩ := h
  cases e
  rcases h with h | ⟨b, o, rfl, _, _, hc⟩
  · exact .inl h
  · refine .inr ⟨_, rfl, fun j u hj => ?_⟩
    rw [Addr.add_lit]
    exact hc j u hj
theorem wordsX_le (m : List PCe) : wordsX m ≤ 40100 := by
  unfold wordsX
  split
  · rename_i h
    have hl := (goodMs_iff.1 h).1
    have : ∀ l : List PCe, wordsM l ≤ 401 * l.length := fun l => by
      induction l with
      | nil => simp [wordsM]
      | cons c l ih => rw [wordsM_cons, List.length_cons]; have := wordsR_le c.1 c.2.1 (hasC c).toNat c.2.2.2.size; unfold wordsC; omega
    have := this m
    omega
  · omega
theorem wordsX_two {a b : List PCe} (ha : goodMs a = true) (hb : goodMs b = true) (hl : a.length + b.length < 100) : wordsX (blkCe 3 2 :: (a ++ b)) = 3 + wordsX a + wordsX b := by
  have h := good_two ha hb (t := 3) (by decide) hl
  unfold wordsX
  rw [if_pos ha, if_pos hb, if_pos h, wordsM_cons, wordsM_app, show wordsC (blkCe 3 2) = 3 by decide +kernel]
  omega
theorem pair_cut {a b : List PCe} (ha : goodMs a = true) (hb : goodMs b = true) (hl : a.length + b.length < 100) : goodMs ((blkCe 3 2 :: (a ++ b)).take (a.length + b.length)) = false := by
  have h := good_two ha hb (t := 3) (by decide) hl
  have hw := (goodMs_iff.1 h).2
  rw [← List.take_append_drop (a.length + b.length) (blkCe 3 2 :: (a ++ b))] at hw
  have := whB_cut _ 1 _ (by intro e; have := congrArg List.length e; simp at this) hw
  unfold goodMs
  rw [this, Bool.and_false]
theorem pair_tail {a b : List PCe} (ha : goodMs a = true) (hb : goodMs b = true) : goodMs (a ++ b) = false := by
  have h := whB_app a 1 0 b (by decide) (by decide) (goodMs_iff.1 ha).2
  rw [whB_zero (goodMs_ne hb)] at h
  have e : (1 : Int) + 0 = 1 := rfl
  rw [e] at h
  unfold goodMs
  rw [h, Bool.and_false]
theorem pair_more {a b : List PCe} (c : PCe) (ha : goodMs a = true) (hb : goodMs b = true) (hl : a.length + b.length < 100) : goodMs ((blkCe 3 2 :: (a ++ b)) ++ [c]) = false := by
  have hw := (goodMs_iff.1 (good_two ha hb (t := 3) (by decide) hl)).2
  have h := whB_app _ 1 0 [c] (by decide) (by decide) hw
  rw [whB_zero (by simp)] at h
  have e : (1 : Int) + 0 = 1 := rfl
  rw [e] at h
  unfold goodMs
  rw [h, Bool.and_false]
/-- An append that stands behind a guard which holds. -/
theorem append_g {w : World} {ops : Array Oper} {rest : List Oper} {o : Oper} {a : Act} {Q : Exit → Act → World → Prop} (hgd : Region.wanted o (yielded ops a.tmps) = true) (s x : Operand) (t : TypeId)
    (ho : o.op = .call { callee := .builtin .append, args := #[s, x], argTypes := #[t, t] })
    (base : Nat) (e : TypeId) (i : TypeInfo) (z : Value) (size bytes : Nat) (ht : Tryz.prog.underlying t = some (.slice e)) (hi : Tryz.prog.info? e = some i) (hz : i.zero = some z)
    (hsize : i.size = size) (hby : i.bytes = bytes) (hzs : z.cells.size = size) (hsz : 0 < size)
    (v : Value) (n : Nat) (xs : List Value) (hs : a.eval s = v) (hown : w.ownsRow base e size v n xs)
    (xa : Option Addr) (m c : Nat) (news : List Value) (hx : a.eval x = .slice xa m c) (hl : news.length = m * size) (hsrc : m = 0 ∨ ∃ ad, xa = some ad ∧ ∀ j u, news[j]? = some u → w.cell? (ad.add j) = some u) (h1 : ∀ u ∈ news, u.oneCell' = true)
    (h63 : n + m ≤ maxLen) (hbytes : (n + m) * bytes ≤ 140737488355328) (hbase : base ≤ w.heap.size)
    (h : ∀ v' w', w'.ownsRow base e size v' (n + m) (xs ++ news) → w.grownBy w' v.ownBlock → (v'.ownBlock = v.ownBlock ∨ v'.ownBlock = some w.heap.size) → wpList Tryz.prog ops Q rest (a.put o.dst v') w') : wpList Tryz.prog ops Q (o :: rest) a w :=
  wpList_step fun K hK => by
    rw [if_pos hgd]
    obtain ⟨v', w', hr, h2, h3, h4⟩ := run_append_w (P := Tryz.prog) w t o.type base e i z size bytes ht hi hz hsize hby hzs hsz v n xs hown xa m c news hl hsrc h1 h63 hbytes hbase
    unfold Oper.wp execOp
    simp only [ho, resolve, invoke, builtin, Sem.run_bind, Sem.run_pure, Result.andThen_ok, List.map_toArray, List.map_cons, List.map_nil, hs, hx, hr]
    exact hK _ _ (h v' w' h2 h3 h4)
theorem own_nil {w : World} {T : TypeId} {s : Nat} : (w.alloc (.cells #[] T)).ownsRow w.heap.size T s (.slice (some ⟨w.heap.size, 0, none⟩) 0 0) 0 [] :=
  owns_mk (rest := []) (rowAt.made w T []) (Nat.le_refl _) (by simp) (by simp) (Nat.le_refl _) (Nat.zero_le _)
set_option maxHeartbeats 16000000 in
theorem walk (sa1 : Option Addr) (sc1 : Nat) (a : List PCe) (sa2 : Option Addr) (sc2 : Nat) (b : List PCe) (w : World) (hc1 : a.length ≤ sc1) (hr1 : rdAt (fun _ => False) w (.slice sa1 a.length sc1) a.length (ceL a)) (hl1 : a.length ≤ reachBytes) (hc2 : b.length ≤ sc2) (hr2 : rdAt (fun _ => False) w (.slice sa2 b.length sc2) b.length (ceL b)) (hl2 : b.length ≤ reachBytes) (T : OpTab w) :
    Calls Tryz.prog 6 #[.slice sa1 a.length sc1, .slice sa2 b.length sc2] w fun e w' => e = .returned (.bool true) ∧ Below w.heap.size w w' := by
  have HA := Lib.hid (hr1.off (T := fun k => w.heap.size ≤ k) (fun k hk ht => by omega))
  have HB := Lib.hid (hr2.off (T := fun k => w.heap.size ≤ k) (fun k hk ht => by omega))
  have B0 := Lib.hid (Below.refl w.heap.size w)
  clear hc1 hc2 hr1 hr2 hl1 hl2
  obtain ⟨ic, hic, hc0, hc1, hc2⟩ := info_parts info_cell
  go_enter Tryz.func6, Tryz.ntmps6
  go_wp2_with fail
  refine (largeMsg_any HA.out).mono ?_
  rintro e w1 ⟨x1, rfl, hb⟩
  have B1 := Lib.hid (bl_call B0.out hb)
  clear hb
  cases x1
  · go_wp2_with fail
    refine (largeMsg_any (HB.out.below B1.out)).mono ?_
    rintro e w2 ⟨x2, rfl, hb⟩
    have B2 := Lib.hid (bl_call B1.out hb)
    clear hb
    cases x2
    · cases hg1 : goodMs a
      · have G1 := Lib.hid hg1
        clear hg1
        go_wp2_with fail
        refine (rgood_is G1.out (HA.out.below B2.out)).mono ?_
        rintro e w3 ⟨rfl, hb⟩
        have B3 := Lib.hid (bl_call B2.out hb)
        clear hb
        go_wp2_with fail
        refine (dwakes_any _ (T.below B3.out)).mono ?_
        rintro e wz ⟨rfl, hb⟩
        have BZ := Lib.hid (bl_call B3.out hb)
        clear hb
        go_wp2_with fail
        go_ret
        exact ⟨rfl, BZ.out⟩
      · have G1 := Lib.hid hg1
        clear hg1
        go_wp2_with fail
        refine (rgood_is G1.out (HA.out.below B2.out)).mono ?_
        rintro e w3 ⟨rfl, hb⟩
        have B3 := Lib.hid (bl_call B2.out hb)
        clear hb
        cases hg2 : goodMs b
        · have G2 := Lib.hid hg2
          clear hg2
          go_wp2_with fail
          refine (rgood_is G2.out (HB.out.below B3.out)).mono ?_
          rintro e w4 ⟨rfl, hb⟩
          have B4 := Lib.hid (bl_call B3.out hb)
          clear hb
          go_wp2_with fail
          refine (dwakes_any _ (T.below B4.out)).mono ?_
          rintro e wz ⟨rfl, hb⟩
          have BZ := Lib.hid (bl_call B4.out hb)
          clear hb
          go_wp2_with fail
          go_ret
          exact ⟨rfl, BZ.out⟩
        · have G2 := Lib.hid hg2
          clear hg2
          go_wp2_with fail
          refine (rgood_is G2.out (HB.out.below B3.out)).mono ?_
          rintro e w4 ⟨rfl, hb⟩
          have B4 := Lib.hid (bl_call B3.out hb)
          clear hb
          have hla := (goodMs_iff.1 G1.out).1
          have hlb := (goodMs_iff.1 G2.out).1
          by_cases hs : 100 ≤ a.length + b.length
          · have hsI : (100 : Int) ≤ (a.length : Int) + (b.length : Int) := by omega
            clear hs
            go_wp2_with fail
            refine (dwakes_any _ (T.below B4.out)).mono ?_
            rintro e wz ⟨rfl, hb⟩
            have BZ := Lib.hid (bl_call B4.out hb)
            clear hb
            go_wp2_with fail
            go_ret
            exact ⟨rfl, BZ.out⟩
          · have hsI : ¬ (100 : Int) ≤ (a.length : Int) + (b.length : Int) := by omega
            have hs2 : a.length + b.length < 100 := by omega
            have hp1 : a.length ≠ 0 := fun e => goodMs_ne G1.out (List.length_eq_zero_iff.1 e)
            have hp2 : b.length ≠ 0 := fun e => goodMs_ne G2.out (List.length_eq_zero_iff.1 e)
            have GT := Lib.hid (good_two G1.out G2.out (t := 3) (by decide) hs2)
            have WT := Lib.hid (wordsX_two G1.out G2.out hs2)
            have CT := Lib.hid (pair_cut G1.out G2.out hs2)
            have TT := Lib.hid (pair_tail G1.out G2.out)
            have MT := Lib.hid (pair_more (numCe 0) G1.out G2.out hs2)
            clear hs
            obtain ⟨WA, hWA⟩ : ∃ WA, w4.alloc (.cells #[.int .i64 1, .int .i64 3, .int .i64 2, .string ⟨#[]⟩] 51) = WA := ⟨_, rfl⟩
            have bA : Below w4.heap.size w4 WA := by rw [← hWA]; exact bl_alloc (Below.refl _ _) _
            have rA : rowAt WA w4.heap.size 51 (ceL [blkCe 3 2]) := by rw [← hWA]; exact rowAt.made _ _ _
            have OA := Lib.hid (show WA.ownsRow w4.heap.size 51 4 (.slice (some ⟨w4.heap.size, 0, none⟩) 1 1) 1 (ceL [blkCe 3 2]) from owns_mk (rest := []) (by rw [List.append_nil]; exact rA) (Nat.le_refl _) rfl rfl (Nat.le_refl _) (by decide))
            have BA := Lib.hid (bl_call B4.out bA)
            have SA := Lib.hid (rd_src (HA.out.below BA.out))
            have hsz : w4.heap.size ≤ WA.heap.size := bA.size
            have RB := Lib.hid (HB.out.below BA.out)
            clear bA rA
            go_wp2_with (first
              | (at_builtin; refine wpList_append_w (by rfl) _ _ _ (by rfl) w4.heap.size 51 ic (.agg #[.int .i64 0, .int .i64 0, .int .i64 0, .string ⟨#[]⟩]) 4 40 under_cells hic hc0 hc1 hc2 (by rfl) (by decide) (.slice (some ⟨w4.heap.size, 0, none⟩) 1 1) 1 (ceL [blkCe 3 2]) (by rfl) OA.out sa1 a.length sc1 (ceL a) (by rfl) (ceL_length _) (SA.out) (ceL_one) (by simp only [maxLen]; omega) (by omega) hsz ?_; intro v5 w5 ho5 hg5 hb5; obtain ⟨a5, c5, rfl⟩ := owns_slice ho5; have O5 := Lib.hid ho5; have U5 := Lib.hid (grown_upon hg5); have B5 := Lib.hid (BA.out.trans ((grown_upon hg5).belowB BA.out.size (fun k e => by have := (OA.out.lt k e).1; have := B4.out.size; omega))); have S5 := Lib.hid (rd_src (RB.out.upon (grown_upon hg5) (fun k hk e => by have := (OA.out.lt k e).1; have := B4.out.size; omega))); have hz5 : w4.heap.size ≤ w5.heap.size := Nat.le_trans hsz hg5.size; clear ho5 hg5 hb5)
              | (at_builtin; refine wpList_append_w (by rfl) _ _ _ (by rfl) w4.heap.size 51 ic (.agg #[.int .i64 0, .int .i64 0, .int .i64 0, .string ⟨#[]⟩]) 4 40 under_cells hic hc0 hc1 hc2 (by rfl) (by decide) (.slice a5 (1 + a.length) c5) (1 + a.length) (ceL [blkCe 3 2] ++ ceL a) (by rfl) O5.out sa2 b.length sc2 (ceL b) (by rfl) (ceL_length _) (S5.out) (ceL_one) (by simp only [maxLen]; omega) (by omega) hz5 ?_; intro v6 w6 ho6 hg6 hb6; obtain ⟨a6, c6, rfl⟩ := owns_slice ho6; have O6 := Lib.hid ho6; have B6 := Lib.hid (B5.out.trans ((grown_upon hg6).belowB B5.out.size (fun k e => by have := (O5.out.lt k e).1; have := B4.out.size; omega))); clear ho6 hg6 hb6))
            clear hWA
            have hN : 1 + a.length + b.length = (a.length + b.length) + 1 := by omega
            obtain ⟨L, hL⟩ : ∃ L, a.length + b.length = L := ⟨_, rfl⟩
            have o6 := O6.out
            have e6 : ceL [blkCe 3 2] ++ ceL a ++ ceL b = ceL (blkCe 3 2 :: (a ++ b)) := by simp [ceL]
            rw [e6, hN, hL] at o6
            rw [hN, hL]
            rw [hL] at CT
            have hLl : (blkCe 3 2 :: (a ++ b)).length = L + 1 := by simp; omega
            obtain ⟨g, cap, rest, hve, hg, hrow, hl1, hl2, hnc, hcm⟩ : ∃ g cap rest, (Value.slice a6 (L + 1) c6 = .slice (some ⟨g, 0, none⟩) (L + 1) cap) ∧ w4.heap.size ≤ g ∧ rowAt w6 g 51 (ceL (blkCe 3 2 :: (a ++ b)) ++ rest) ∧ (ceL (blkCe 3 2 :: (a ++ b))).length = (L + 1) * 4 ∧ (ceL (blkCe 3 2 :: (a ++ b))).length + rest.length = cap * 4 ∧ L + 1 ≤ cap ∧ cap ≤ maxLen := by
              rcases owns_parts o6 with ⟨_, h1, _⟩ | ⟨g, cap, rest, e, hg, hr, h1, h2, h3, h4⟩
              · omega
              · exact ⟨g, cap, rest, e, hg, hr, h1, h2, h3, h4⟩
            cases hve
            have RW := Lib.hid hrow
            have T6 := Lib.hid (show rdAt (fun _ => False) w6 (.slice (some ⟨g, 0, none⟩) (blkCe 3 2 :: (a ++ b)).length c6) (blkCe 3 2 :: (a ++ b)).length (ceL (blkCe 3 2 :: (a ++ b))) from ⟨_, _, rfl, .inr ⟨g, 0, rfl, fun h => h, hrow.lt, fun j u hj => by rw [Nat.zero_add, hrow.cell, List.getElem?_append_left (List.getElem?_eq_some_iff.1 hj).1]; exact hj⟩⟩)
            have C6 := Lib.hid (show rdAt (fun _ => False) w6 (.slice (some ⟨g, 0, none⟩) ((blkCe 3 2 :: (a ++ b)).take L).length c6) ((blkCe 3 2 :: (a ++ b)).take L).length (ceL ((blkCe 3 2 :: (a ++ b)).take L)) from ⟨_, _, rfl, .inr ⟨g, 0, rfl, fun h => h, hrow.lt, fun j u hj => by
              rw [Nat.zero_add, hrow.cell]
              have e8 : ceL (blkCe 3 2 :: (a ++ b)) = ceL ((blkCe 3 2 :: (a ++ b)).take L) ++ ceL ((blkCe 3 2 :: (a ++ b)).drop L) := by rw [← ceL_app, List.take_append_drop]
              rw [e8, List.append_assoc, List.getElem?_append_left (List.getElem?_eq_some_iff.1 hj).1]
              exact hj⟩⟩)
            have A6 := Lib.hid (show rdAt (fun _ => False) w6 (.slice (some ⟨g, 4, none⟩) (a ++ b).length (c6 - 1)) (a ++ b).length (ceL (a ++ b)) from ⟨_, _, rfl, .inr ⟨g, 4, rfl, fun h => h, hrow.lt, fun j u hj => by
              rw [hrow.cell]
              have e8 : ceL (blkCe 3 2 :: (a ++ b)) = ceC (blkCe 3 2) ++ ceL (a ++ b) := by simp [ceL]
              rw [e8, List.append_assoc, List.getElem?_append_right (by simp [ceC]), show 4 + j - (ceC (blkCe 3 2)).length = j by simp [ceC], List.getElem?_append_left (List.getElem?_eq_some_iff.1 hj).1]
              exact hj⟩⟩)
            rw [hLl] at T6
            have D6 := Lib.hid (Below.refl w6.heap.size w6)
            have hLt : ((blkCe 3 2 :: (a ++ b)).take L).length = L := by rw [List.length_take, hLl]; omega
            have hLa : (a ++ b).length = L := by rw [List.length_append]; exact hL
            have hLc : L + 1 ≤ c6 := hnc
            have hL2 : 2 ≤ L := by omega
            have hL100 : L < 100 := by omega
            have SRC := Lib.hid (owns_src (owns_mk (size := 4) (B := 0) hrow (Nat.zero_le _) hl1 hl2 hnc hcm))
            have LEN := Lib.hid hl1
            clear hrow hl1 hl2 hcm hg o6 e6 O6 hN
            have hs1 : ∀ W, (Instr.slice 41 (.slice (some ⟨g, 0, none⟩) (L + 1) c6) none (some (.int .i64 (L : Int))) none).run Tryz.prog W = .ok (.slice (some ⟨g, 0, none⟩) L c6) W := fun W => run_slice_to_w _ _ under_cells hic _ (by omega) (by omega) W
            have hs3 : ∀ W, (Instr.slice 41 (.slice (some ⟨g, 0, none⟩) (L + 1) c6) (some (.int .i64 1)) none none).run Tryz.prog W = .ok (.slice (some ⟨g, 4, none⟩) L (c6 - 1)) W := fun W => by
              have h := run_slice_from_w (P := Tryz.prog) 41 51 under_cells hic (some ⟨g, 0, none⟩) (n := L + 1) (c := c6) (k := 1) (by omega) W
              rw [if_neg (by omega), hc1] at h
              exact h
            obtain ⟨q1, hq1⟩ : ∃ q, wordsX a = q := ⟨_, rfl⟩
            obtain ⟨q2, hq2⟩ : ∃ q, wordsX b = q := ⟨_, rfl⟩
            have l1 : q1 ≤ 40100 := hq1 ▸ wordsX_le a
            have l2 : q2 ≤ 40100 := hq2 ▸ wordsX_le b
            rw [hq1, hq2] at WT
            have Q1 := Lib.hid hq1
            have Q2 := Lib.hid hq2
            have hw3 : ((((3 + q1 + q2 : Nat) : Int)) != ((3 : Int) + (q1 : Int) + (q2 : Int))) = false := by simp
            clear hq1 hq2 hs2 hla hlb hL hLl
            go_wp2_with fail
            refine (dgood_is GT.out (by rw [show (blkCe 3 2 :: (a ++ b)).length = L + 1 by rw [List.length_cons, hLa]]; exact T6.out)).mono ?_
            rintro e w7 ⟨rfl, hb⟩
            have B7 := Lib.hid (bl_call B6.out hb)
            have D7 := Lib.hid (bl_call D6.out hb)
            clear hb
            go_wp2_with fail
            refine (dwords_is WT.out (by rw [show (blkCe 3 2 :: (a ++ b)).length = L + 1 by rw [List.length_cons, hLa]]; exact T6.out.below D7.out)).mono ?_
            rintro e w8 ⟨rfl, hb⟩
            have B8 := Lib.hid (bl_call B7.out hb)
            have D8 := Lib.hid (bl_call D7.out hb)
            clear hb
            go_wp2_with fail
            refine (dwords_is Q1.out (HA.out.below B8.out)).mono ?_
            rintro e w9 ⟨rfl, hb⟩
            have B9 := Lib.hid (bl_call B8.out hb)
            have D9 := Lib.hid (bl_call D8.out hb)
            clear hb
            go_wp2_with fail
            refine (dwords_is Q2.out (HB.out.below B9.out)).mono ?_
            rintro e w10 ⟨rfl, hb⟩
            have B10 := Lib.hid (bl_call B9.out hb)
            have D10 := Lib.hid (bl_call D9.out hb)
            clear hb
            go_wp2_with fail
            refine (dgood_is CT.out (by rw [hLt]; exact (hLt ▸ C6.out).below D10.out)).mono ?_
            rintro e w11 ⟨rfl, hb⟩
            have B11 := Lib.hid (bl_call B10.out hb)
            have D11 := Lib.hid (bl_call D10.out hb)
            clear hb
            go_wp2_with fail
            refine (dgood_is TT.out (by rw [hLa]; exact (hLa ▸ A6.out).below D11.out)).mono ?_
            rintro e w12 ⟨rfl, hb⟩
            have B12 := Lib.hid (bl_call B11.out hb)
            have D12 := Lib.hid (bl_call D11.out hb)
            clear hb
            go_wp2_with fail
            refine (dgood_is (m := []) (b := false) (by decide) (show rdAt (fun _ => False) w12 (.slice none 0 0) ([] : List PCe).length (ceL []) from ⟨_, _, rfl, .inl rfl⟩)).mono ?_
            rintro e w13 ⟨rfl, hb⟩
            have B13 := Lib.hid (bl_call B12.out hb)
            have D13 := Lib.hid (bl_call D12.out hb)
            clear hb
            by_cases h100 : L + 1 = 100
            · have h100I : (100 : Int) ≤ (L : Int) + 1 := by omega
              clear h100
              go_wp2_with fail
              refine (dwakes_any _ (T.below B13.out)).mono ?_
              rintro e wz ⟨rfl, hb⟩
              have BZ := Lib.hid (bl_call B13.out hb)
              clear hb
              go_wp2_with fail
              go_ret
              exact ⟨rfl, BZ.out⟩
            · have h100I : ¬ (100 : Int) ≤ (L : Int) + 1 := by omega
              have h100D : decide ((100 : Int) ≤ (L : Int) + 1) = false := decide_eq_false h100I
              clear h100
              obtain ⟨WB, hWB⟩ : ∃ WB, w13.alloc (.cells #[] 51) = WB := ⟨_, rfl⟩
              have dB : Below w13.heap.size w13 WB := by rw [← hWB]; exact bl_alloc (Below.refl _ _) _
              have OB := Lib.hid (show WB.ownsRow w13.heap.size 51 4 (.slice (some ⟨w13.heap.size, 0, none⟩) 0 0) 0 [] by rw [← hWB]; exact own_nil)
              have BB := Lib.hid (bl_call B13.out dB)
              have SB := Lib.hid (rd_src (T6.out.below (bl_call D13.out dB)))
              have hzB : w13.heap.size ≤ WB.heap.size := dB.size
              clear dB
              go_wp2_with (first
                | (at_builtin; refine append_g (by simp [Region.wanted, yielded, h100D]) _ _ _ (by rfl) w13.heap.size 51 ic (.agg #[.int .i64 0, .int .i64 0, .int .i64 0, .string ⟨#[]⟩]) 4 40 under_cells hic hc0 hc1 hc2 (by rfl) (by decide) (.slice (some ⟨w13.heap.size, 0, none⟩) 0 0) 0 [] (by rfl) OB.out (some ⟨g, 0, none⟩) (L + 1) c6 (ceL (blkCe 3 2 :: (a ++ b))) (by rfl) (LEN.out) (SB.out) (ceL_one) (by simp only [maxLen]; omega) (by omega) hzB ?_; intro v14 w14 ho14 hg14 hb14; rw [Nat.zero_add, List.nil_append] at ho14; obtain ⟨a14, c14, rfl⟩ := owns_slice ho14; obtain ⟨WC, hWC⟩ : ∃ WC, w14.alloc (.cells #[.int .i64 0, .int .i64 0, .int .i64 0, .string ⟨#[]⟩] 51) = WC := ⟨_, rfl⟩; have dC : Below w14.heap.size w14 WC := by { rw [← hWC]; exact bl_alloc (Below.refl _ _) _ }; have RC : rowAt WC w14.heap.size 51 (ceL [numCe 0]) := by { rw [← hWC]; exact rowAt.made _ _ _ }; have OC := Lib.hid (owns_below ho14 dC (fun q hq => (ho14.lt q hq).2)); have BC := Lib.hid (bl_call (BB.out.trans ((grown_upon hg14).belowB BB.out.size (fun k e => by have := (OB.out.lt k e).1; have := B13.out.size; omega))) dC); have SC := Lib.hid (rd_src (show rdAt (fun _ => False) WC (.slice (some ⟨w14.heap.size, 0, none⟩) 1 1) 1 (ceL [numCe 0]) from ⟨_, _, rfl, .inr ⟨w14.heap.size, 0, rfl, fun h => h, RC.lt, fun j u hj => by { rw [Nat.zero_add, RC.cell]; exact hj }⟩⟩)); have hzC : w13.heap.size ≤ WC.heap.size := Nat.le_trans hzB (Nat.le_trans hg14.size dC.size); clear ho14 hg14 hb14 dC RC)
                | (at_builtin; refine append_g (by simp [Region.wanted, yielded, h100D]) _ _ _ (by rfl) w13.heap.size 51 ic (.agg #[.int .i64 0, .int .i64 0, .int .i64 0, .string ⟨#[]⟩]) 4 40 under_cells hic hc0 hc1 hc2 (by rfl) (by decide) (.slice a14 (L + 1) c14) (L + 1) (ceL (blkCe 3 2 :: (a ++ b))) (by rfl) OC.out (some ⟨w14.heap.size, 0, none⟩) 1 1 (ceL [numCe 0]) (by rfl) (ceL_length _) (SC.out) (ceL_one) (by simp only [maxLen]; omega) (by omega) hzC ?_; intro v15 w15 ho15 hg15 hb15; obtain ⟨a15, c15, rfl⟩ := owns_slice ho15; have O15 := Lib.hid ho15; have B15 := Lib.hid (BC.out.trans ((grown_upon hg15).belowB BC.out.size (fun k e => by have := (OC.out.lt k e).1; have := B13.out.size; omega))); clear ho15 hg15 hb15))
              have e15 : ceL (blkCe 3 2 :: (a ++ b)) ++ ceL [numCe 0] = ceL ((blkCe 3 2 :: (a ++ b)) ++ [numCe 0]) := by simp [ceL]
              have hn15 : ((blkCe 3 2 :: (a ++ b)) ++ [numCe 0]).length = L + 1 + 1 := by rw [List.length_append, List.length_cons, hLa]; rfl
              have T15 := Lib.hid (show rdAt (fun _ => False) w15 (.slice a15 (L + 1 + 1) c15) ((blkCe 3 2 :: (a ++ b)) ++ [numCe 0]).length (ceL ((blkCe 3 2 :: (a ++ b)) ++ [numCe 0])) by
                rw [← e15, hn15]; exact rdAt.of_owns O15.out (fun _ _ h => h))
              clear e15 hn15
              refine (dgood_is MT.out T15.out).mono ?_
              rintro e w16 ⟨rfl, hb⟩
              have B16 := Lib.hid (bl_call B15.out hb)
              clear hb
              go_wp2_with fail
              refine (dwakes_any _ (T.below B16.out)).mono ?_
              rintro e wz ⟨rfl, hb⟩
              have BZ := Lib.hid (bl_call B16.out hb)
              clear hb
              go_wp2_with fail
              go_ret
              exact ⟨rfl, BZ.out⟩
    · skip
      go_wp2_with fail
      refine (dwakes_any _ (T.below B2.out)).mono ?_
      rintro e wz ⟨rfl, hb⟩
      have BZ := Lib.hid (bl_call B2.out hb)
      clear hb
      go_wp2_with fail
      go_ret
      exact ⟨rfl, BZ.out⟩
  · skip
    go_wp2_with fail
    refine (dwakes_any _ (T.below B1.out)).mono ?_
    rintro e wz ⟨rfl, hb⟩
    have BZ := Lib.hid (bl_call B1.out hb)
    clear hb
    go_wp2_with fail
    go_ret
    exact ⟨rfl, BZ.out⟩

theorem contract (H : Type) (enc : TypeId × Value → H) (W : World) (base : Nat) (args : Array Value) (ds gs : List (DataW H)) (before : List MemPlace)
    (hval0 : ∀ (j : Nat) t v, Tryz.f6.params[j]? = some t → args[j]? = some v → Value.okWide Tryz.prog W .any base t v)
    (hW : DataW.Whole enc Tryz.prog Tryz.f6.params.toList Rows.dataPairsSpec.vars false W args.toList ds gs before)
    (T : OpTab W)
    (hz : (DataW.weightsEach Tryz.prog (Tryz.f6.params.toList ++ Rows.dataPairsSpec.plain.varTypes Tryz.prog) (ds ++ gs)).all (· ≤ reachBytes) = true) :
    Calls Tryz.prog 6 args W fun e W' => ∃ v, e = .returned v ∧ Rows.dataPairsSpec.post enc Tryz.prog Tryz.f6 false true false false W args v W' := by
  have hW' := hW
  have hval := hval0
  obtain ⟨p, q, hA0, hV, rfl, hfz, hnd⟩ := hW
  have hA : DataW.TrodAll enc Tryz.prog W 0 (fun _ => true) true Tryz.f6.params.toList args.toList ds p := hA0
  rw [Tryz.params6] at hA hval
  obtain ⟨rfl, rfl⟩ := trodVars_none hV
  have wb : ∀ (j : Nat) (t : TypeId) (d : DataW H), Tryz.f6.params[j]? = some t → ds[j]? = some d → WB Tryz.prog t d := fun j t d ht hd => wb_of hz (by simpa using ht) hd
  rw [Tryz.params6] at wb
  obtain ⟨v0, vs0, d0, ds0, p0, q0, hargs, rfl, rfl, h0, r0⟩ := trodAll_cons hA
  obtain ⟨v1, vs1, d1, ds1, p1, q1, rfl, rfl, rfl, h1, r1⟩ := trodAll_cons r0
  obtain ⟨rfl, rfl, rfl⟩ := trodAll_nil r1
  obtain rfl : args = #[v0, v1] := by cases args; simp_all
  obtain ⟨sa0, sc0, m0, rfl, hc0, hr0, hl0⟩ := open_msg (wb 0 _ _ rfl rfl) (hval 0 41 v0 rfl rfl) h0
  obtain ⟨sa1, sc1, m1, rfl, hc1, hr1, hl1⟩ := open_msg (wb 1 _ _ rfl rfl) (hval 1 41 v1 rfl rfl) h1
  refine (walk sa0 sc0 m0 sa1 sc1 m1 W hc0 hr0 hl0 hc1 hr1 hl1 T).mono fun e W' ⟨he, hb⟩ => ?_
  subst he
  exact ⟨_, rfl, law_post laidOut (by kernel_rfl) rfl (by kernel_rfl) Tryz.underlying4 hW' rfl rfl rfl hb⟩

theorem door_met (os : Os) (args : Array Value) : laidMetH Tryz.prog Rows.dataPairsRow.laid ((World.doorLaid Tryz.prog 200 os).forCall (fun _ _ => 0) ⟨#[], args, []⟩).memory :=
  laidMetH_of_parts3 (fuel := 8) (laidMet_of_run' 8 (by kernel_rfl) (by kernel_rfl)) (by kernel_rfl) (by kernel_rfl)

set_option maxRecDepth 100000 in
theorem lifted (os : Os) (started : os.Started) (H : Type) (enc : TypeId × Value → H) :
    ReturnsInHanded {} Tryz.checked os 6 .any (fun w args => (Rows.dataPairsSpec.pre enc Tryz.prog Tryz.f6 [] false w args ∧ laidMetH Tryz.prog Rows.dataPairsRow.laid w) ∧ sizedMet enc Tryz.prog Tryz.f6 (OpenSpec.ofChange Rows.dataPairsSpec) false w args)
      (Rows.dataPairsSpec.post enc Tryz.prog Tryz.f6 false true false false) := by
  refine returnsInHanded_of_change_and (C := Tryz.checked) (X := fun w _ => laidMetH Tryz.prog Rows.dataPairsRow.laid w) (fun _ _ _ hh h => h.of_heap hh) own started (by kernel_rfl) Tryz.func6
    (ChangeSpec.witness_shaped (enc := enc) (C := Tryz.checked) (os := os) (X := fun w _ => laidMetH Tryz.prog Rows.dataPairsRow.laid w) false (World.doorLaid Tryz.prog 200 os) #[.slice none 0 0, .slice none 0 0] 8 rfl (World.shaped_of_RefB (by kernel_rfl) (by kernel_rfl)) (by kernel_rfl) (by kernel_rfl) (by kernel_rfl) (door_met os _)) ?_
  intro W base args ds gs before hval hW _ hz hL _
  exact contract H enc W base args ds gs before hval hW (optab_of (laid_lies (by kernel_rfl) hL _ _ (List.Mem.head _)) (laid_lies (by kernel_rfl) hL _ _ (List.Mem.tail _ (List.Mem.head _))) (laid_lies (by kernel_rfl) hL _ _ (List.Mem.tail _ (List.Mem.tail _ (List.Mem.head _))))) hz

theorem over : Rows.dataPairsRow.holds Tryz.pinned (OpenSpec.ofChange Rows.dataPairsSpec) :=
  OpenClaim.holds_of_wide 6 Tryz.f6 rfl rfl rfl rfl rfl rfl rfl ⟨rfl, rfl, rfl, rfl, rfl⟩ rfl rfl rfl rfl rfl (by kernel_rfl) Tryz.func6 (by kernel_rfl)
    (of_decide_eq_true (by kernel_rfl)) (by unfold Func.isWrapper; first | (rw [if_pos (by decide +kernel)]; kernel_rfl) | (rw [if_neg (by decide +kernel)]; exact ⟨rfl, rfl⟩))
    (fun os started H enc _ => lifted os started H enc)

theorem proved : Rows.DataPairsCardSaid :=
  Claim7.holds_tied_plain_at .later [] [.data, .data, .data] true _ false
    over (fun _ h => by cases h) (by kernel_rfl) (fun _ h => by cases h) dataPairs_row_tie rfl ⟨rfl, rfl⟩ (by kernel_rfl) rfl
    (fun f fn hf hfn => by
      obtain rfl : f = 6 := Option.some.inj ((show Tryz.prog.funcNamed "stockpot/stockpotlaw10.DataPairs" = some 6 by kernel_rfl).symm.trans hf) |>.symm
      obtain rfl : fn = Tryz.f6 := (Option.some.inj (Tryz.func6.symm.trans hfn)).symm
      exact ⟨by kernel_rfl, fun j t ht => by
        have hall : (Tryz.f6.params.toList.all fun u => !Tryz.prog.wantsStandIn u) = true := by kernel_rfl
        exact (show Tryz.prog.wantsStandIn t = false by simpa using List.all_eq_true.1 hall t (by simpa using Array.mem_of_getElem? ht))⟩)
    (by kernel_rfl)
#print axioms proved
end Go.Proofs.YtffnafnkkbmnpaaGreatDoor.dataPairs
