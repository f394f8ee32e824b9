/-
  Layer 10's wakes: its message, the state of its memory.
  Conditions: as each states.
-/
import Derived.Test.YtffnafnkkbmnpaaGreatDoorZDv
import Derived.Test.YtffnafnkkbmnpaaGreatDoorZDz
import Derived.Test.YtffnafnkkbmnpaaGreatDoorLay
import Derived.Deep.DeepCutAuto
import Derived.Deep.CutBlock
import Derived.Test.YtffnafnkkbmnpaaGreatDoorZArgsM
import Derived.Test.YtffnafnkkbmnpaaGreatDoorTie
import Derived.Test.YtffnafnkkbmnpaaGreatDoorCards
import Derived.SevenTiedAt
import Derived.LaidMore
import Derived.Stop.Joined
namespace Go.Proofs.YtffnafnkkbmnpaaGreatDoor
set_option linter.unusedVariables false
set_option linter.unusedSimpArgs false
open Go.ChangeShapes Go.WideShapes Go.ChangeAt Go.RowKit
set_option maxRecDepth 100000

theorem in_any {w : World} {p : Nat} {F : Nat → Prop} {A : Ar} (hA : Held w p F A) (base half space top : Int) {a : Option Addr} {cap : Nat} {m : List PCe} (hr : rdAt F w (.slice a m.length cap) m.length (ceL m)) (hcap : m.length ≤ cap) :
    Calls Tryz.prog 13 #[.pointer (some ⟨p, 0, none⟩), heapV base half space top, .slice a m.length cap] w (InT A base half space top m p F w) := by
  cases ho : A.objs base half space top with
  | none => exact in_heap hA base half space top hr ho
  | some obs =>
    cases hg : goodMs m with
    | false => exact in_msg hA base half space top hr (by rw [ho]; rfl) hg
    | true =>
      by_cases hw : (wordsM m : Int) ≤ half - top
      · exact in_good hA base half space top hr hcap ho hg hw
      · obtain ⟨h1, h2, h3, h4, h5⟩ := objs_top hA.ok ho
        exact in_room hA base half space top hr (by rw [ho]; rfl) hg (by omega) (by rw [IntKind.wrap_i64]; omega)
def abText : ByteArray := ⟨#[97, 98]⟩
def oneM : List PCe := [blkCe 1 2, numCe 1, blkCe 1 2, strCe abText, numCe 0]
def twoM : List PCe := [blkCe 1 2, numCe 1, numCe 0]
def wakF : List PFm := [(6, 1, 0, []), (1, 0, 0, [])]
theorem one_good : goodMs oneM = true := by decide +kernel
theorem one_words : wordsM oneM = 8 := by decide +kernel
theorem one_tail : goodMs oneM.tail = false := by decide +kernel
theorem two_good : goodMs twoM = true := by decide +kernel
theorem wak_forms : rfmsG wakF = true := by decide +kernel
theorem wak_yes : fitL wakF [0] twoM = true := by decide +kernel
theorem wak_no : fitL wakF [0] oneM = false := by decide +kernel
def dA0 : Ar := Ar.laid (List.replicate 20 0)
theorem dA0_objs : dA0.objs 3 10 0 0 = some [] := by kernel_rfl
theorem one_any (w : World) : Calls Tryz.prog 26 #[] w fun e w' => e = .returned (.slice (some ⟨w.heap.size, 0, none⟩) 5 5) ∧ rowAt w' w.heap.size 51 (ceL oneM) ∧ Below w.heap.size w w' := by
  go_enter Tryz.func26, Tryz.ntmps26
  go_wp2_with fail
  go_ret
  exact ⟨rfl, rowAt.made _ _ _, bl_alloc (Below.refl _ _) _⟩
theorem row_rd {F : Nat → Prop} {w : World} {g n c : Nat} {T : TypeId} {cs : List Value} (h : rowAt w g T cs) (hF : ¬ F g) : rdAt F w (.slice (some ⟨g, 0, none⟩) n c) n cs :=
  ⟨_, _, rfl, .inr ⟨g, 0, rfl, hF, h.lt, fun j u hj => by rw [h.cell, Nat.zero_add]; exact hj⟩⟩
structure Wd (w : World) (p p2 b1 : Nat) (F : Nat → Prop) (A : Ar) (W : World) : Prop where
  held : Held W p F A
  two : rowAt W b1 33 [.pointer (some ⟨p, 0, none⟩), .pointer (some ⟨p2, 0, none⟩)]
  nb : ¬ F b1
  lo : w.heap.size ≤ b1
  fl : ∀ k, F k → w.heap.size ≤ k
  below : Below w.heap.size w W
section
variable {w : World} {p p2 b1 : Nat} {F : Nat → Prop} {A A' : Ar} {W W' : World}
theorem Wd.on (h : Wd w p p2 b1 F A W) (hb : Below W.heap.size W W') : Wd w p p2 b1 F A W' := ⟨h.held.below hb, h.two.below hb h.two.lt, h.nb, h.lo, h.fl, bl_call h.below hb⟩
theorem Wd.step (h : Wd w p p2 b1 F A W) (hs : Step F F W W') (hh : Held W' p F A') : Wd w p p2 b1 F A' W' :=
  ⟨hh, h.two.upon hs.upon h.nb, h.nb, h.lo, h.fl, h.below.trans (hs.upon.belowB h.below.size h.fl)⟩
end
/-- What the first In of wakes comes to. -/
theorem wak_in {A : Ar} {w : World} {p : Nat} {F : Nat → Prop} {e : Ending} {w' : World} (hA : A.objs 3 10 0 0 = some []) (h : InT A 3 10 0 0 oneM p F w e w') :
    Step F F w w' ∧ ∃ A1 X, e = .returned (.tuple #[heapV 3 10 0 8, .int .u64 0, .bool true]) ∧ Held w' p F A1 ∧ A1.objs 3 10 0 8 = some X ∧ outP 0 X 100 [0] = some oneM := by
  obtain ⟨hs, h⟩ := h
  refine ⟨hs, ?_⟩
  rcases h with ⟨obs, A', X, w0, h1, h2, h3, h4, h5, h6, h7, h8, c, r, h9, h10⟩ | ⟨h1, _⟩
  · rw [hA] at h1
    cases h1
    have e1 : w0 = 0 := by
      rw [h10]
      have : c = blkCe 1 2 := by unfold oneM at h9; exact (List.cons.inj h9).1.symm
      rw [this]
      rfl
    subst e1
    rw [one_words] at h4 h6
    refine ⟨A', X, by rw [h4]; rfl, h5, by simpa using h6, ?_⟩
    rw [outP_iff]
    exact ⟨by simpa using h7, by decide⟩
  · rw [hA, one_good, one_words] at h1
    cases h1
theorem wak_in2 {A : Ar} {X : List Ob} {w : World} {p : Nat} {F : Nat → Prop} {e : Ending} {w' : World} (hA : A.objs 3 10 0 8 = some X) (h : InT A 3 10 0 8 oneM p F w e w') :
    Step F F w w' ∧ e = .returned (.tuple #[heapV 0 0 0 0, .int .u64 0, .bool false]) ∧ Held w' p F A := by
  obtain ⟨hs, h⟩ := h
  refine ⟨hs, ?_⟩
  rcases h with ⟨obs, A', X, w0, h1, h2, h3, h4⟩ | ⟨h1, h2, h3⟩
  · rw [one_words] at h3
    omega
  · exact ⟨h2, h3⟩
/-- Behind the first In. -/
def CutW (w : World) (p p2 b1 : Nat) (F : Nat → Prop) (v4 v5 v6 : Value) (wx : World) : Prop :=
  ∃ hb A1 X, v4 = .pointer (some ⟨hb, 0, none⟩) ∧ v5 = .int .u64 0 ∧ v6 = .bool true ∧ Wd w p p2 b1 F A1 wx ∧ rowAt wx hb 24 [.int .i64 3, .int .i64 10, .int .i64 0, .int .i64 8] ∧ ¬ F hb ∧ A1.objs 3 10 0 8 = some X ∧ outP 0 X 100 [0] = some oneM
/-- Behind the second one. -/
def CutX (V w : World) (p p2 b1 : Nat) (F : Nat → Prop) (hb : Nat) (A1 : Ar) (v9 v10 v11 : Value) (wx : World) : Prop :=
  Upon F V wx ∧ ∃ gb, v9 = .pointer (some ⟨gb, 0, none⟩) ∧ v10 = .int .u64 0 ∧ v11 = .bool false ∧ Wd w p p2 b1 F A1 wx ∧ rowAt wx hb 24 [.int .i64 3, .int .i64 10, .int .i64 0, .int .i64 8] ∧ rowAt wx gb 24 [.int .i64 0, .int .i64 0, .int .i64 0, .int .i64 0]
theorem Wd.set {w : World} {p p2 b1 zb : Nat} {F : Nat → Prop} {A : Ar} {W : World} (h : Wd w p p2 b1 F A W) (hF : ¬ F zb) (hb : b1 ≠ zb) (hl : w.heap.size ≤ zb) {a c d e : Value} :
    Wd w p p2 b1 F A ((((W.setCell ⟨zb, 0, none⟩ a).setCell ⟨zb, 1, none⟩ c).setCell ⟨zb, 2, none⟩ d).setCell ⟨zb, 3, none⟩ e) := by
  have hu : Upon (fun k => k = zb) W _ := upon_set4 (S := fun k => k = zb) (w := W) (b := zb) rfl (a := a) (c := c) (d := d) (e := e)
  exact ⟨h.held.upon hu (fun k hk e => hF (e ▸ hk)), h.two.upon hu hb, h.nb, h.lo, h.fl, h.below.trans (hu.belowB h.below.size fun k e => by omega)⟩
theorem row_set4 {W : World} {zb : Nat} {T : TypeId} {a0 c0 d0 e0 a c d e : Value} (h : rowAt W zb T [a0, c0, d0, e0]) : rowAt ((((W.setCell ⟨zb, 0, none⟩ a).setCell ⟨zb, 1, none⟩ c).setCell ⟨zb, 2, none⟩ d).setCell ⟨zb, 3, none⟩ e) zb T [a, c, d, e] :=
  (((h.set 0 a).set 1 c).set 2 d).set 3 e
theorem cutW_last {w : World} {p p2 b1 : Nat} {F : Nat → Prop} {A1 : Ar} {X : List Ob} {w4 : World} (K : Wd w p p2 b1 F A1 w4) (h1 : A1.objs 3 10 0 8 = some X) (h2 : outP 0 X 100 [0] = some oneM) :
    CutW w p p2 b1 F (.pointer (some ⟨w4.heap.size, 0, none⟩)) (.int .u64 0) (.bool true) (w4.alloc (.cells #[.int .i64 3, .int .i64 10, .int .i64 0, .int .i64 8] 24)) :=
  ⟨_, A1, X, rfl, rfl, rfl, K.on (bl_alloc (Below.refl _ _) _), rowAt.made _ _ _, fun hf => by have := K.held.lt _ hf; omega, h1, h2⟩
theorem cutW_set {w : World} {p p2 b1 zb : Nat} {F : Nat → Prop} {A1 : Ar} {X : List Ob} {w4 : World} (K : Wd w p p2 b1 F A1 w4) (h1 : A1.objs 3 10 0 8 = some X) (h2 : outP 0 X 100 [0] = some oneM) {a c d e : Value} (hz : rowAt w4 zb 24 [a, c, d, e]) (hF : ¬ F zb) (hb : b1 ≠ zb) (hl : w.heap.size ≤ zb) :
    CutW w p p2 b1 F (.pointer (some ⟨zb, 0, none⟩)) (.int .u64 0) (.bool true) ((((w4.setCell ⟨zb, 0, none⟩ (.int .i64 3)).setCell ⟨zb, 1, none⟩ (.int .i64 10)).setCell ⟨zb, 2, none⟩ (.int .i64 0)).setCell ⟨zb, 3, none⟩ (.int .i64 8)) :=
  ⟨_, A1, X, rfl, rfl, rfl, K.set hF hb hl, row_set4 hz, hF, h1, h2⟩
theorem cutX_last {V w : World} {p p2 b1 hb : Nat} {F : Nat → Prop} {A1 : Ar} {w4 : World} (K : Wd w p p2 b1 F A1 w4) (hh : rowAt w4 hb 24 [.int .i64 3, .int .i64 10, .int .i64 0, .int .i64 8]) (hU : Upon F V w4) :
    CutX V w p p2 b1 F hb A1 (.pointer (some ⟨w4.heap.size, 0, none⟩)) (.int .u64 0) (.bool false) (w4.alloc (.cells #[.int .i64 0, .int .i64 0, .int .i64 0, .int .i64 0] 24)) :=
  ⟨hU.trans (Upon.alloc F _ _) (fun _ _ h => h), _, rfl, rfl, rfl, K.on (bl_alloc (Below.refl _ _) _), hh.alloc _, rowAt.made _ _ _⟩
theorem cutX_set {V w : World} {p p2 b1 hb zb : Nat} {F : Nat → Prop} {A1 : Ar} {w4 : World} (K : Wd w p p2 b1 F A1 w4) (hh : rowAt w4 hb 24 [.int .i64 3, .int .i64 10, .int .i64 0, .int .i64 8]) {a c d e : Value} (hz : rowAt w4 zb 24 [a, c, d, e]) (hF : ¬ F zb) (hb1 : b1 ≠ zb) (hb2 : hb ≠ zb) (hl : w.heap.size ≤ zb) (hU : Upon F V w4) (hV : V.heap.size ≤ zb) :
    CutX V w p p2 b1 F hb A1 (.pointer (some ⟨zb, 0, none⟩)) (.int .u64 0) (.bool false) ((((w4.setCell ⟨zb, 0, none⟩ (.int .i64 0)).setCell ⟨zb, 1, none⟩ (.int .i64 0)).setCell ⟨zb, 2, none⟩ (.int .i64 0)).setCell ⟨zb, 3, none⟩ (.int .i64 0)) :=
  ⟨hU.trans (T := fun k => k = zb) (upon_set4 (S := fun k => k = zb) rfl) (fun i hi e => by omega), _, rfl, rfl, rfl, K.set hF hb1 hl, hh.upon (S := fun k => k = zb) (upon_set4 (S := fun k => k = zb) rfl) hb2, row_set4 hz⟩
theorem wak_out {A1 : Ar} {X : List Ob} {w w' : World} {e : Ending} (h1 : A1.objs 3 10 0 8 = some X) (h2 : outP 0 X 100 [0] = some oneM)
    (h : OutT (match A1.objs 3 10 0 8 with | some obs => outP (0 * 10) obs 100 [0] | none => none) w e w') : Below w.heap.size w w' ∧ ∃ oa oc, e = .returned (.tuple #[.slice oa 5 oc, .bool true]) ∧ w'.ownsRow w.heap.size 51 4 (.slice oa 5 oc) 5 (ceL oneM) := by
  obtain ⟨hb, h⟩ := h
  refine ⟨hb, ?_⟩
  have e1 : (match A1.objs 3 10 0 8 with | some obs => outP (0 * 10) obs 100 [0] | none => none) = some oneM := by rw [h1]; exact h2
  rcases h with ⟨m, v, h3, h4, h5⟩ | ⟨h3, _⟩
  · rw [e1] at h3
    cases h3
    obtain ⟨oa, oc, rfl⟩ := owns_slice h5
    exact ⟨oa, oc, h4, h5⟩
  · rw [e1] at h3; cases h3
theorem wakF_at {w : World} {fb cap : Nat} (h : rowAt w fb 58 [.int .i64 6, .int .i64 1, .int .i64 0, .slice none 0 0, .int .i64 1, .int .i64 0, .int .i64 0, .slice none 0 0]) : fmsAt (fun _ => False) w (.slice (some ⟨fb, 0, none⟩) 2 cap) wakF := by
  refine ⟨_, _, rfl, .inr ⟨fb, 0, rfl, fun h => h, h.lt, fun k x hx => ?_⟩⟩
  match k with
  | 0 =>
    have e : x = (6, 1, 0, []) := by simpa [wakF] using hx.symm
    subst e
    exact ⟨h.cell 0, h.cell 1, h.cell 2, _, h.cell 3, ⟨_, _, rfl, .inl rfl⟩⟩
  | 1 =>
    have e : x = (1, 0, 0, []) := by simpa [wakF] using hx.symm
    subst e
    exact ⟨h.cell 4, h.cell 5, h.cell 6, _, h.cell 7, ⟨_, _, rfl, .inl rfl⟩⟩
  | k + 2 => simp [wakF] at hx
theorem wakF_fm : ∀ m ∈ wakF, fmF m := by
  intro m hm
  simp only [wakF, List.mem_cons, List.not_mem_nil, or_false] at hm
  rcases hm with rfl | rfl
  · exact ⟨by decide, by decide, by decide, fun c hc => (by cases hc), by decide⟩
  · exact ⟨by decide, by decide, by decide, fun c hc => (by cases hc), by decide⟩
/-- Fits over wakes' forms. -/
theorem wak_fits {S2 : Nat → Prop} {w : World} (T : OpTab w) {fb cap : Nat} (h : rowAt w fb 58 [.int .i64 6, .int .i64 1, .int .i64 0, .slice none 0 0, .int .i64 1, .int .i64 0, .int .i64 0, .slice none 0 0]) {vm : Value} {m : List PCe} (hm : rdAt S2 w vm m.length (ceL m)) (hg : goodMs m = true) {r : Bool} (hr : fitL wakF [0] m = r) :
    Calls Tryz.prog 22 #[.slice (some ⟨fb, 0, none⟩) 2 cap, .int .i64 0, vm] w fun e w' => e = .returned (.bool r) ∧ Below w.heap.size w w' := by
  have hfa := wakF_at (cap := cap) h
  have key := fits_go T hfa wakF_fm (by decide) 0 hm wak_forms (by decide) (by decide) hg (fun W hb j hj c hc => by
    have hW := fms_below hfa hb
    match j, hj with
    | 0, _ =>
      by_cases h0 : c = numCe 0
      · exact fit_6_nil hW (k := 0) rfl c h0
      · exact fit_6_two hW (k := 0) rfl c h0
    | 1, _ => exact fit_1 hW (k := 1) rfl c)
  rw [hr] at key
  exact key
theorem wak_fits2 {S2 : Nat → Prop} {w : World} (T : OpTab w) {fb cap : Nat} (h : rowAt w fb 58 [.int .i64 6, .int .i64 1, .int .i64 0, .slice none 0 0, .int .i64 1, .int .i64 0, .int .i64 0, .slice none 0 0]) {vm : Value} {m : List PCe} (hm : rdAt S2 w vm m.length (ceL m)) :
    Calls Tryz.prog 22 #[.slice (some ⟨fb, 0, none⟩) 2 cap, .int .i64 2, vm] w fun e w' => e = .returned (.bool false) ∧ Below w.heap.size w w' :=
  fits_no T (wakF_at (cap := cap) h) wakF_fm (by decide) 2 hm (by rw [show (decide ((0 : Int) ≤ 2 ∧ (2 : Int) < ((wakF.length : Nat) : Int))) = false by decide, Bool.false_and, Bool.and_false])
theorem make_twenty (w : World) : (Instr.makeSlice 22 (.int .i64 20) (.int .i64 20)).run Tryz.prog w = .ok (.slice (some ⟨w.heap.size, 0, none⟩) 20 20) (w.alloc (.cells ⟨wordsL (List.replicate 20 0)⟩ 42)) := make_words 20 (by omega) w
end Go.Proofs.YtffnafnkkbmnpaaGreatDoor

/-
  Layer 10's wakes.
  Conditions: the tables of op read as the program's text lays them (OpTab).
-/
namespace Go.Proofs.YtffnafnkkbmnpaaGreatDoor
set_option linter.unusedVariables false
set_option linter.unusedSimpArgs false
open Go.ChangeShapes Go.WideShapes Go.ChangeAt Go.RowKit
set_option maxRecDepth 100000

theorem rd_tailD {w : World} {g : Nat} (h : rowAt w g 51 (ceL oneM)) : rdAt (fun _ => False) w (.slice (some ⟨g, 4, none⟩) oneM.tail.length 4) oneM.tail.length (ceL oneM.tail) := by
  refine ⟨_, _, rfl, .inr ⟨g, 4, rfl, fun h => h, h.lt, fun j u hj => ?_⟩⟩
  rw [h.cell]
  have e4 : ceL oneM = ceC (blkCe 1 2) ++ ceL oneM.tail := by simp [ceL, oneM]
  rw [e4, List.getElem?_append_right (by simp [ceC]), show 4 + j - (ceC (blkCe 1 2)).length = j by simp [ceC]]
  exact hj
set_option maxHeartbeats 16000000 in
theorem dwakes_any (w : World) (T : OpTab w) :
    Calls Tryz.prog 8 #[] w fun e w' => e = .returned (.bool true) ∧ Below w.heap.size w w' := by
  have hmk := make_twenty
  have HT := Lib.hid T
  clear T
  go_enter Tryz.func8, Tryz.ntmps8
  go_wp2_with fail
  refine (lay_any _ _ (List.replicate 20 0) (readsAt.row (rest := []) (by rw [List.append_nil]; exact rowAt.made w _ _)) (fun x hx => by obtain rfl := List.eq_of_mem_replicate hx; exact ⟨by decide, by decide⟩) (by decide)).mono ?_
  rintro e w1 ⟨p, p2, F, G, rfl, h1, h2, h3, h4, h5, h6⟩
  clear h2 h3 h5
  have H1 := Lib.hid (show Held w1 p F dA0 from h1)
  have H4 := Lib.hid h4
  have H6 := Lib.hid (bl_call (bl_alloc (Below.refl w.heap.size w) (.cells ⟨wordsL (List.replicate 20 0)⟩ 42)) h6)
  have H4' := Lib.hid (fun k (hk : F k) => show w.heap.size ≤ k by have := h4 k hk; simp at this; omega)
  clear h1 h4 h6 hmk
  obtain ⟨W, hW⟩ : ∃ W, w1.alloc (.cells #[.pointer (some ⟨p, 0, none⟩), .pointer (some ⟨p2, 0, none⟩)] 33) = W := ⟨_, rfl⟩
  have K : Hid (Wd w p p2 w1.heap.size F dA0 W) := by
    have hb : Below w1.heap.size w1 W := by rw [← hW]; exact bl_alloc (Below.refl _ _) _
    exact ⟨H1.out.below hb, by rw [← hW]; exact rowAt.made _ _ _, fun hf => by have := H1.out.lt _ hf; omega, H6.out.size, H4'.out, bl_call H6.out hb⟩
  obtain ⟨b1, hb1⟩ : ∃ b1, w1.heap.size = b1 := ⟨_, rfl⟩
  rw [hb1] at K
  have a0 : W.cell? ⟨b1, 0, none⟩ = some (.pointer (some ⟨p, 0, none⟩)) := (K.out.two.cell 0).trans rfl
  have a1 : W.cell? ⟨b1, 1, none⟩ = some (.pointer (some ⟨p2, 0, none⟩)) := (K.out.two.cell 1).trans rfl
  have al := K.out.two.lt
  go_wp2_with fail
  clear hW
  go_upto_region 4 with fail
  go_cut [4, 5, 6] (fun v4 v5 v6 wx => CutW w p p2 b1 F v4 v5 v6 wx)
  case first =>
    have KD := Lib.hid (K.out.on (bl_drew (Below.refl _ _)))
    have KZ := Lib.hid (K.out.on (bl_alloc (Below.refl _ _) (.cells #[.int .i64 0, .int .i64 0, .int .i64 0, .int .i64 0] 24)))
    have KZD := Lib.hid (K.out.on (bl_drew (bl_alloc (Below.refl _ _) (.cells #[.int .i64 0, .int .i64 0, .int .i64 0, .int .i64 0] 24))))
    have G0 := Lib.hid (show (fun w' => w'.cell? ⟨b1, 0, none⟩ = some (.pointer (some ⟨p, 0, none⟩))) W from (K.out.two.cell 0).trans rfl)
    have G1 := Lib.hid (show (fun w' => w'.cell? ⟨b1, 0, none⟩ = some (.pointer (some ⟨p, 0, none⟩))) W.drew from (KD.out.two.cell 0).trans rfl)
    have G2 := Lib.hid (show (fun w' => w'.cell? ⟨b1, 0, none⟩ = some (.pointer (some ⟨p, 0, none⟩))) (W.alloc (.cells #[.int .i64 0, .int .i64 0, .int .i64 0, .int .i64 0] 24)) from (KZ.out.two.cell 0).trans rfl)
    have G3 := Lib.hid (show (fun w' => w'.cell? ⟨b1, 0, none⟩ = some (.pointer (some ⟨p, 0, none⟩))) (W.alloc (.cells #[.int .i64 0, .int .i64 0, .int .i64 0, .int .i64 0] 24)).drew from (KZD.out.two.cell 0).trans rfl)
    have IN5 := Lib.hid (fun (W' : World) (g : Nat) (hh : Held W' p F dA0) (hr : rowAt W' g 51 (ceL oneM)) (hg : ¬ F g) => show Calls Tryz.prog 13 #[.pointer (some ⟨p, 0, none⟩), .agg #[.int .i64 3, .int .i64 10, .int .i64 0, .int .i64 0], .slice (some ⟨g, 0, none⟩) 5 5] W' (InT dA0 3 10 0 0 oneM p F W') from in_any (m := oneM) (a := some ⟨g, 0, none⟩) (cap := 5) hh 3 10 0 0 (row_rd hr hg) (by decide))
    have LT := K.out.held.lt
    have NFL := Lib.hid LT
    clear LT
    have ZL := Lib.hid (show b1 < W.heap.size from K.out.two.lt)
    have ZB := Lib.hid (show w.heap.size ≤ W.heap.size from K.out.below.size)
    have nbW : b1 ≠ W.heap.size := by have := ZL.out; omega
    go_wp2_with fail
    go_region_held3 (fun w' => w'.cell? ⟨b1, 0, none⟩ = some (.pointer (some ⟨p, 0, none⟩)))
      (first | with_reducible exact G0.out | with_reducible exact G1.out | with_reducible exact G2.out | with_reducible exact G3.out | with_reducible exact Y3.out | with_reducible exact Y4.out | with_reducible exact Y5.out | with_reducible exact Y6.out | (simp [go_sem, y4, l4, nbW, nb3]; done))
      (first
      | (go_at_call 26
         with_reducible refine (one_any W.drew).mono ?_
         rintro e w3 ⟨rfl, hr3, b3⟩
         have K3 := Lib.hid (KD.out.on b3)
         have O3 := Lib.hid (show rowAt w3 W.heap.size 51 (ceL oneM) from hr3)
         have S3 : Hid (W.heap.size ≤ w3.heap.size) := Lib.hid (by have := b3.size; simp at this; omega)
         have nb3 : b1 ≠ w3.heap.size := by have := ZL.out; have := S3.out; omega
         have Y3 := Lib.hid (show (fun w' => w'.cell? ⟨b1, 0, none⟩ = some (.pointer (some ⟨p, 0, none⟩))) w3 from (K3.out.two.cell 0).trans rfl)
         have Y5 := Lib.hid (show (fun w' => w'.cell? ⟨b1, 0, none⟩ = some (.pointer (some ⟨p, 0, none⟩))) (w3.alloc (.cells #[.int .i64 0, .int .i64 0, .int .i64 0, .int .i64 0] 24)) from ((K3.out.on (bl_alloc (Below.refl _ _) (.cells #[.int .i64 0, .int .i64 0, .int .i64 0, .int .i64 0] 24))).two.cell 0).trans rfl)
         have Y6 := Lib.hid (show (fun w' => w'.cell? ⟨b1, 0, none⟩ = some (.pointer (some ⟨p, 0, none⟩))) (w3.alloc (.cells #[.int .i64 0, .int .i64 0, .int .i64 0, .int .i64 0] 24)).drew from ((K3.out.on (bl_drew (bl_alloc (Below.refl _ _) (.cells #[.int .i64 0, .int .i64 0, .int .i64 0, .int .i64 0] 24)))).two.cell 0).trans rfl)
         clear hr3 b3)
      | (go_at_call 26
         with_reducible refine (one_any (W.alloc (.cells #[.int .i64 0, .int .i64 0, .int .i64 0, .int .i64 0] 24)).drew).mono ?_
         rintro e w3 ⟨rfl, hr3, b3⟩
         have K3 := Lib.hid (KZD.out.on b3)
         have O3 := Lib.hid (show rowAt w3 (W.heap.size + 1) 51 (ceL oneM) by simpa using hr3)
         have S3 : Hid (W.heap.size ≤ w3.heap.size) := Lib.hid (by have := b3.size; simp at this; omega)
         have RZ3 := Lib.hid ((rowAt.made W 24 [.int .i64 0, .int .i64 0, .int .i64 0, .int .i64 0]).drew.below b3 (by simp))
         have nb3 : b1 ≠ w3.heap.size := by have := ZL.out; have := S3.out; omega
         have Y3 := Lib.hid (show (fun w' => w'.cell? ⟨b1, 0, none⟩ = some (.pointer (some ⟨p, 0, none⟩))) w3 from (K3.out.two.cell 0).trans rfl)
         have Y5 := Lib.hid (show (fun w' => w'.cell? ⟨b1, 0, none⟩ = some (.pointer (some ⟨p, 0, none⟩))) (w3.alloc (.cells #[.int .i64 0, .int .i64 0, .int .i64 0, .int .i64 0] 24)) from ((K3.out.on (bl_alloc (Below.refl _ _) (.cells #[.int .i64 0, .int .i64 0, .int .i64 0, .int .i64 0] 24))).two.cell 0).trans rfl)
         have Y6 := Lib.hid (show (fun w' => w'.cell? ⟨b1, 0, none⟩ = some (.pointer (some ⟨p, 0, none⟩))) (w3.alloc (.cells #[.int .i64 0, .int .i64 0, .int .i64 0, .int .i64 0] 24)).drew from ((K3.out.on (bl_drew (bl_alloc (Below.refl _ _) (.cells #[.int .i64 0, .int .i64 0, .int .i64 0, .int .i64 0] 24)))).two.cell 0).trans rfl)
         clear hr3 b3)
      | (go_at_call 13
         have RZ := RZ3.out
         with_reducible refine (IN5.out w3 _ K3.out.held O3.out (fun hf => by have := NFL.out _ hf; omega)).mono ?_
         rintro e w4 hin
         obtain ⟨hs4, A1, X, rfl, hh4, ho4, hp4⟩ := wak_in dA0_objs hin
         have K4 := Lib.hid (K3.out.step hs4 hh4)
         have RZ4 := Lib.hid (RZ.upon hs4.upon (fun hf => by have := NFL.out _ hf; have := S3.out; omega))
         obtain ⟨z0, z1, z2, z3⟩ := cells4 RZ4.out
         have f0 := RZ4.out.free 0
         have f1 := RZ4.out.free 1
         have f2 := RZ4.out.free 2
         have f3 := RZ4.out.free 3
         have lz := RZ4.out.lt
         have Y4 := Lib.hid (show (fun w' => w'.cell? ⟨b1, 0, none⟩ = some (.pointer (some ⟨p, 0, none⟩))) w4 from (K4.out.two.cell 0).trans rfl)
         have y4 := Y4.out
         have l4 := K4.out.two.lt
         have HO4 := Lib.hid ho4
         have HP4 := Lib.hid hp4
         clear hin hs4 hh4 ho4 hp4)
      | (go_at_call 13
         with_reducible refine (IN5.out w3 _ K3.out.held O3.out (fun hf => by have := NFL.out _ hf; omega)).mono ?_
         rintro e w4 hin
         obtain ⟨hs4, A1, X, rfl, hh4, ho4, hp4⟩ := wak_in dA0_objs hin
         have K4 := Lib.hid (K3.out.step hs4 hh4)
         have Y4 := Lib.hid (show (fun w' => w'.cell? ⟨b1, 0, none⟩ = some (.pointer (some ⟨p, 0, none⟩))) w4 from (K4.out.two.cell 0).trans rfl)
         have y4 := Y4.out
         have l4 := K4.out.two.lt
         have HO4 := Lib.hid ho4
         have HP4 := Lib.hid hp4
         clear hin hs4 hh4 ho4 hp4)
      | (go_at_call 13
         with_reducible refine (IN5.out (w3.alloc (.cells #[.int .i64 0, .int .i64 0, .int .i64 0, .int .i64 0] 24)) _ (K3.out.on (bl_alloc (Below.refl _ _) (.cells #[.int .i64 0, .int .i64 0, .int .i64 0, .int .i64 0] 24))).held (O3.out.alloc (.cells #[.int .i64 0, .int .i64 0, .int .i64 0, .int .i64 0] 24)) (fun hf => by have := NFL.out _ hf; omega)).mono ?_
         rintro e w4 hin
         obtain ⟨hs4, A1, X, rfl, hh4, ho4, hp4⟩ := wak_in dA0_objs hin
         have K4 := Lib.hid ((K3.out.on (bl_alloc (Below.refl _ _) (.cells #[.int .i64 0, .int .i64 0, .int .i64 0, .int .i64 0] 24))).step hs4 hh4)
         have RZ4 := Lib.hid ((rowAt.made w3 24 [.int .i64 0, .int .i64 0, .int .i64 0, .int .i64 0]).upon hs4.upon (fun hf => by have := NFL.out _ hf; have := S3.out; omega))
         obtain ⟨z0, z1, z2, z3⟩ := cells4 RZ4.out
         have f0 := RZ4.out.free 0
         have f1 := RZ4.out.free 1
         have f2 := RZ4.out.free 2
         have f3 := RZ4.out.free 3
         have lz := RZ4.out.lt
         have Y4 := Lib.hid (show (fun w' => w'.cell? ⟨b1, 0, none⟩ = some (.pointer (some ⟨p, 0, none⟩))) w4 from (K4.out.two.cell 0).trans rfl)
         have y4 := Y4.out
         have l4 := K4.out.two.lt
         have HO4 := Lib.hid ho4
         have HP4 := Lib.hid hp4
         clear hin hs4 hh4 ho4 hp4))
    all_goals
      go_wp2_with fail
      go_meet
      first
        | exact cutW_last K4.out HO4.out HP4.out
        | exact cutW_set K4.out HO4.out HP4.out RZ4.out (fun hf => by have := NFL.out _ hf; have := S3.out; omega) (by have := ZL.out; have := S3.out; omega) (by have := ZB.out; have := S3.out; omega)
  case rest =>
    obtain ⟨hb, A1, X, rfl, rfl, rfl, hk, hh, nfh, ho, hp⟩ := hcut
    have K1 := Lib.hid hk
    have HV0 := Lib.hid hh
    have HN := Lib.hid nfh
    have O1 := Lib.hid ho
    have HP := Lib.hid hp
    have e0 : wc.cell? ⟨b1, 0, none⟩ = some (.pointer (some ⟨p, 0, none⟩)) := (K1.out.two.cell 0).trans rfl
    obtain ⟨h0, h1, h2, h3⟩ := cells4 HV0.out
    clear hk hh nfh ho hp K a0 a1 al
    go_wp2_with fail
    refine (out_any K1.out.held 3 10 0 8 0 ⟨by decide, by decide⟩).mono ?_
    rintro e V hout
    obtain ⟨bV, oa, oc, rfl, hom⟩ := wak_out O1.out HP.out hout
    have KV := Lib.hid (K1.out.on bV)
    have HV := Lib.hid (HV0.out.below bV HV0.out.lt)
    have RM : Hid (rdAt (fun k => F k ∨ V.heap.size ≤ k) V (.slice oa 5 oc) 5 (ceL oneM)) := Lib.hid (rdAt.of_owns hom (fun g hg hk => by
      have h1 := (hom.lt g hg)
      rcases hk with hk | hk
      · have := K1.out.held.lt _ hk; omega
      · omega))
    clear hout bV hom e0 h0 h1 h2 h3
    go_upto_region 6 with fail
    go_cut [9, 10, 11] (fun v9 v10 v11 wx => CutX V w p p2 b1 F hb A1 v9 v10 v11 wx)
    case first =>
      have KD := Lib.hid (KV.out.on (bl_drew (Below.refl _ _)))
      have KZ := Lib.hid (KV.out.on (bl_alloc (Below.refl _ _) (.cells #[.int .i64 0, .int .i64 0, .int .i64 0, .int .i64 0] 24)))
      have KZD := Lib.hid (KV.out.on (bl_drew (bl_alloc (Below.refl _ _) (.cells #[.int .i64 0, .int .i64 0, .int .i64 0, .int .i64 0] 24))))
      have G0 := Lib.hid (show (fun w' => w'.cell? ⟨b1, 0, none⟩ = some (.pointer (some ⟨p, 0, none⟩)) ∧ w'.cell? ⟨hb, 0, none⟩ = some (.int .i64 3) ∧ w'.cell? ⟨hb, 1, none⟩ = some (.int .i64 10) ∧ w'.cell? ⟨hb, 2, none⟩ = some (.int .i64 0) ∧ w'.cell? ⟨hb, 3, none⟩ = some (.int .i64 8)) V from And.intro ((KV.out.two.cell 0).trans rfl) (cells4 HV.out))
      have G1 := Lib.hid (show (fun w' => w'.cell? ⟨b1, 0, none⟩ = some (.pointer (some ⟨p, 0, none⟩)) ∧ w'.cell? ⟨hb, 0, none⟩ = some (.int .i64 3) ∧ w'.cell? ⟨hb, 1, none⟩ = some (.int .i64 10) ∧ w'.cell? ⟨hb, 2, none⟩ = some (.int .i64 0) ∧ w'.cell? ⟨hb, 3, none⟩ = some (.int .i64 8)) V.drew from And.intro ((KD.out.two.cell 0).trans rfl) (cells4 HV.out.drew))
      have G2 := Lib.hid (show (fun w' => w'.cell? ⟨b1, 0, none⟩ = some (.pointer (some ⟨p, 0, none⟩)) ∧ w'.cell? ⟨hb, 0, none⟩ = some (.int .i64 3) ∧ w'.cell? ⟨hb, 1, none⟩ = some (.int .i64 10) ∧ w'.cell? ⟨hb, 2, none⟩ = some (.int .i64 0) ∧ w'.cell? ⟨hb, 3, none⟩ = some (.int .i64 8)) (V.alloc (.cells #[.int .i64 0, .int .i64 0, .int .i64 0, .int .i64 0] 24)) from And.intro ((KZ.out.two.cell 0).trans rfl) (cells4 (HV.out.alloc (.cells #[.int .i64 0, .int .i64 0, .int .i64 0, .int .i64 0] 24))))
      have G3 := Lib.hid (show (fun w' => w'.cell? ⟨b1, 0, none⟩ = some (.pointer (some ⟨p, 0, none⟩)) ∧ w'.cell? ⟨hb, 0, none⟩ = some (.int .i64 3) ∧ w'.cell? ⟨hb, 1, none⟩ = some (.int .i64 10) ∧ w'.cell? ⟨hb, 2, none⟩ = some (.int .i64 0) ∧ w'.cell? ⟨hb, 3, none⟩ = some (.int .i64 8)) (V.alloc (.cells #[.int .i64 0, .int .i64 0, .int .i64 0, .int .i64 0] 24)).drew from And.intro ((KZD.out.two.cell 0).trans rfl) (cells4 (HV.out.alloc (.cells #[.int .i64 0, .int .i64 0, .int .i64 0, .int .i64 0] 24)).drew))
      have IN5 := Lib.hid (fun (W' : World) (g : Nat) (hh : Held W' p F A1) (hr : rowAt W' g 51 (ceL oneM)) (hg : ¬ F g) => show Calls Tryz.prog 13 #[.pointer (some ⟨p, 0, none⟩), .agg #[.int .i64 3, .int .i64 10, .int .i64 0, .int .i64 8], .slice (some ⟨g, 0, none⟩) 5 5] W' (InT A1 3 10 0 8 oneM p F W') from in_any (m := oneM) (a := some ⟨g, 0, none⟩) (cap := 5) hh 3 10 0 8 (row_rd hr hg) (by decide))
      have LT := KV.out.held.lt
      have NFL := Lib.hid LT
      clear LT
      have ZL := Lib.hid (show b1 < V.heap.size from KV.out.two.lt)
      have ZB := Lib.hid (show w.heap.size ≤ V.heap.size from KV.out.below.size)
      have nhW : hb ≠ V.heap.size := by have := HV.out.lt; omega
      have nbW : b1 ≠ V.heap.size := by have := ZL.out; omega
      go_wp2_with fail
      go_region_held3 (fun w' => w'.cell? ⟨b1, 0, none⟩ = some (.pointer (some ⟨p, 0, none⟩)) ∧ w'.cell? ⟨hb, 0, none⟩ = some (.int .i64 3) ∧ w'.cell? ⟨hb, 1, none⟩ = some (.int .i64 10) ∧ w'.cell? ⟨hb, 2, none⟩ = some (.int .i64 0) ∧ w'.cell? ⟨hb, 3, none⟩ = some (.int .i64 8))
        (first | with_reducible exact G0.out | with_reducible exact G1.out | with_reducible exact G2.out | with_reducible exact G3.out | with_reducible exact Y3.out | with_reducible exact Y4.out | with_reducible exact Y5.out | with_reducible exact Y6.out | ((refine ⟨?_, ?_, ?_, ?_, ?_⟩ <;> simp [go_sem, y4, l4, l5, h0, h1, h2, h3, nbW, nb3, nhW, nh3]); done))
        (first
        | (go_at_call 26
           with_reducible refine (one_any V.drew).mono ?_
           rintro e w3 ⟨rfl, hr3, b3⟩
           have K3 := Lib.hid (KD.out.on b3)
           have O3 := Lib.hid (show rowAt w3 V.heap.size 51 (ceL oneM) from hr3)
           have HV3 := Lib.hid (HV.out.drew.below b3 HV.out.lt)
           have B3 := Lib.hid (bl_call (bl_drew (Below.refl V.heap.size V)) b3)
           have nh3 : hb ≠ w3.heap.size := by have := HV3.out.lt; omega
           have S3 : Hid (V.heap.size ≤ w3.heap.size) := Lib.hid (by have := b3.size; simp at this; omega)
           have nb3 : b1 ≠ w3.heap.size := by have := ZL.out; have := S3.out; omega
           have Y3 := Lib.hid (show (fun w' => w'.cell? ⟨b1, 0, none⟩ = some (.pointer (some ⟨p, 0, none⟩)) ∧ w'.cell? ⟨hb, 0, none⟩ = some (.int .i64 3) ∧ w'.cell? ⟨hb, 1, none⟩ = some (.int .i64 10) ∧ w'.cell? ⟨hb, 2, none⟩ = some (.int .i64 0) ∧ w'.cell? ⟨hb, 3, none⟩ = some (.int .i64 8)) w3 from And.intro ((K3.out.two.cell 0).trans rfl) (cells4 HV3.out))
           have Y5 := Lib.hid (show (fun w' => w'.cell? ⟨b1, 0, none⟩ = some (.pointer (some ⟨p, 0, none⟩)) ∧ w'.cell? ⟨hb, 0, none⟩ = some (.int .i64 3) ∧ w'.cell? ⟨hb, 1, none⟩ = some (.int .i64 10) ∧ w'.cell? ⟨hb, 2, none⟩ = some (.int .i64 0) ∧ w'.cell? ⟨hb, 3, none⟩ = some (.int .i64 8)) (w3.alloc (.cells #[.int .i64 0, .int .i64 0, .int .i64 0, .int .i64 0] 24)) from And.intro (((K3.out.on (bl_alloc (Below.refl _ _) (.cells #[.int .i64 0, .int .i64 0, .int .i64 0, .int .i64 0] 24))).two.cell 0).trans rfl) (cells4 (HV3.out.alloc (.cells #[.int .i64 0, .int .i64 0, .int .i64 0, .int .i64 0] 24))))
           have Y6 := Lib.hid (show (fun w' => w'.cell? ⟨b1, 0, none⟩ = some (.pointer (some ⟨p, 0, none⟩)) ∧ w'.cell? ⟨hb, 0, none⟩ = some (.int .i64 3) ∧ w'.cell? ⟨hb, 1, none⟩ = some (.int .i64 10) ∧ w'.cell? ⟨hb, 2, none⟩ = some (.int .i64 0) ∧ w'.cell? ⟨hb, 3, none⟩ = some (.int .i64 8)) (w3.alloc (.cells #[.int .i64 0, .int .i64 0, .int .i64 0, .int .i64 0] 24)).drew from And.intro (((K3.out.on (bl_drew (bl_alloc (Below.refl _ _) (.cells #[.int .i64 0, .int .i64 0, .int .i64 0, .int .i64 0] 24)))).two.cell 0).trans rfl) (cells4 (HV3.out.alloc (.cells #[.int .i64 0, .int .i64 0, .int .i64 0, .int .i64 0] 24)).drew))
           clear hr3 b3)
        | (go_at_call 26
           with_reducible refine (one_any (V.alloc (.cells #[.int .i64 0, .int .i64 0, .int .i64 0, .int .i64 0] 24)).drew).mono ?_
           rintro e w3 ⟨rfl, hr3, b3⟩
           have K3 := Lib.hid (KZD.out.on b3)
           have O3 := Lib.hid (show rowAt w3 (V.heap.size + 1) 51 (ceL oneM) by simpa using hr3)
           have HV3 := Lib.hid ((HV.out.alloc (.cells #[.int .i64 0, .int .i64 0, .int .i64 0, .int .i64 0] 24)).drew.below b3 (HV.out.alloc (.cells #[.int .i64 0, .int .i64 0, .int .i64 0, .int .i64 0] 24)).lt)
           have B3 := Lib.hid (bl_call (bl_drew (bl_alloc (Below.refl V.heap.size V) (.cells #[.int .i64 0, .int .i64 0, .int .i64 0, .int .i64 0] 24))) b3)
           have nh3 : hb ≠ w3.heap.size := by have := HV3.out.lt; omega
           have S3 : Hid (V.heap.size ≤ w3.heap.size) := Lib.hid (by have := b3.size; simp at this; omega)
           have RZ3 := Lib.hid ((rowAt.made V 24 [.int .i64 0, .int .i64 0, .int .i64 0, .int .i64 0]).drew.below b3 (by simp))
           have nb3 : b1 ≠ w3.heap.size := by have := ZL.out; have := S3.out; omega
           have Y3 := Lib.hid (show (fun w' => w'.cell? ⟨b1, 0, none⟩ = some (.pointer (some ⟨p, 0, none⟩)) ∧ w'.cell? ⟨hb, 0, none⟩ = some (.int .i64 3) ∧ w'.cell? ⟨hb, 1, none⟩ = some (.int .i64 10) ∧ w'.cell? ⟨hb, 2, none⟩ = some (.int .i64 0) ∧ w'.cell? ⟨hb, 3, none⟩ = some (.int .i64 8)) w3 from And.intro ((K3.out.two.cell 0).trans rfl) (cells4 HV3.out))
           have Y5 := Lib.hid (show (fun w' => w'.cell? ⟨b1, 0, none⟩ = some (.pointer (some ⟨p, 0, none⟩)) ∧ w'.cell? ⟨hb, 0, none⟩ = some (.int .i64 3) ∧ w'.cell? ⟨hb, 1, none⟩ = some (.int .i64 10) ∧ w'.cell? ⟨hb, 2, none⟩ = some (.int .i64 0) ∧ w'.cell? ⟨hb, 3, none⟩ = some (.int .i64 8)) (w3.alloc (.cells #[.int .i64 0, .int .i64 0, .int .i64 0, .int .i64 0] 24)) from And.intro (((K3.out.on (bl_alloc (Below.refl _ _) (.cells #[.int .i64 0, .int .i64 0, .int .i64 0, .int .i64 0] 24))).two.cell 0).trans rfl) (cells4 (HV3.out.alloc (.cells #[.int .i64 0, .int .i64 0, .int .i64 0, .int .i64 0] 24))))
           have Y6 := Lib.hid (show (fun w' => w'.cell? ⟨b1, 0, none⟩ = some (.pointer (some ⟨p, 0, none⟩)) ∧ w'.cell? ⟨hb, 0, none⟩ = some (.int .i64 3) ∧ w'.cell? ⟨hb, 1, none⟩ = some (.int .i64 10) ∧ w'.cell? ⟨hb, 2, none⟩ = some (.int .i64 0) ∧ w'.cell? ⟨hb, 3, none⟩ = some (.int .i64 8)) (w3.alloc (.cells #[.int .i64 0, .int .i64 0, .int .i64 0, .int .i64 0] 24)).drew from And.intro (((K3.out.on (bl_drew (bl_alloc (Below.refl _ _) (.cells #[.int .i64 0, .int .i64 0, .int .i64 0, .int .i64 0] 24)))).two.cell 0).trans rfl) (cells4 (HV3.out.alloc (.cells #[.int .i64 0, .int .i64 0, .int .i64 0, .int .i64 0] 24)).drew))
           clear hr3 b3)
        | (go_at_call 13
           have RZ := RZ3.out
           with_reducible refine (IN5.out w3 _ K3.out.held O3.out (fun hf => by have := NFL.out _ hf; omega)).mono ?_
           rintro e w4 hin
           obtain ⟨hs4, rfl, hh4⟩ := wak_in2 O1.out hin
           have HV4 := Lib.hid (HV3.out.upon hs4.upon HN.out)
           have U4 := Lib.hid ((Upon.of_below (S := F) B3.out).trans hs4.upon (fun _ _ h => h))
           have K4 := Lib.hid (K3.out.step hs4 hh4)
           have RZ4 := Lib.hid (RZ.upon hs4.upon (fun hf => by have := NFL.out _ hf; have := S3.out; omega))
           obtain ⟨z0, z1, z2, z3⟩ := cells4 RZ4.out
           have f0 := RZ4.out.free 0
           have f1 := RZ4.out.free 1
           have f2 := RZ4.out.free 2
           have f3 := RZ4.out.free 3
           have lz := RZ4.out.lt
           have Y4 := Lib.hid (show (fun w' => w'.cell? ⟨b1, 0, none⟩ = some (.pointer (some ⟨p, 0, none⟩)) ∧ w'.cell? ⟨hb, 0, none⟩ = some (.int .i64 3) ∧ w'.cell? ⟨hb, 1, none⟩ = some (.int .i64 10) ∧ w'.cell? ⟨hb, 2, none⟩ = some (.int .i64 0) ∧ w'.cell? ⟨hb, 3, none⟩ = some (.int .i64 8)) w4 from And.intro ((K4.out.two.cell 0).trans rfl) (cells4 HV4.out))
           obtain ⟨y4, h0, h1, h2, h3⟩ := Y4.out
           have l4 := K4.out.two.lt
           have l5 := HV4.out.lt
           clear hin hs4 hh4)
        | (go_at_call 13
           with_reducible refine (IN5.out w3 _ K3.out.held O3.out (fun hf => by have := NFL.out _ hf; omega)).mono ?_
           rintro e w4 hin
           obtain ⟨hs4, rfl, hh4⟩ := wak_in2 O1.out hin
           have HV4 := Lib.hid (HV3.out.upon hs4.upon HN.out)
           have U4 := Lib.hid ((Upon.of_below (S := F) B3.out).trans hs4.upon (fun _ _ h => h))
           have K4 := Lib.hid (K3.out.step hs4 hh4)
           have Y4 := Lib.hid (show (fun w' => w'.cell? ⟨b1, 0, none⟩ = some (.pointer (some ⟨p, 0, none⟩)) ∧ w'.cell? ⟨hb, 0, none⟩ = some (.int .i64 3) ∧ w'.cell? ⟨hb, 1, none⟩ = some (.int .i64 10) ∧ w'.cell? ⟨hb, 2, none⟩ = some (.int .i64 0) ∧ w'.cell? ⟨hb, 3, none⟩ = some (.int .i64 8)) w4 from And.intro ((K4.out.two.cell 0).trans rfl) (cells4 HV4.out))
           obtain ⟨y4, h0, h1, h2, h3⟩ := Y4.out
           have l4 := K4.out.two.lt
           have l5 := HV4.out.lt
           clear hin hs4 hh4)
        | (go_at_call 13
           with_reducible refine (IN5.out (w3.alloc (.cells #[.int .i64 0, .int .i64 0, .int .i64 0, .int .i64 0] 24)) _ (K3.out.on (bl_alloc (Below.refl _ _) (.cells #[.int .i64 0, .int .i64 0, .int .i64 0, .int .i64 0] 24))).held (O3.out.alloc (.cells #[.int .i64 0, .int .i64 0, .int .i64 0, .int .i64 0] 24)) (fun hf => by have := NFL.out _ hf; omega)).mono ?_
           rintro e w4 hin
           obtain ⟨hs4, rfl, hh4⟩ := wak_in2 O1.out hin
           have HV4 := Lib.hid ((HV3.out.alloc (.cells #[.int .i64 0, .int .i64 0, .int .i64 0, .int .i64 0] 24)).upon hs4.upon HN.out)
           have U4 := Lib.hid ((Upon.of_below (S := F) (bl_alloc B3.out (.cells #[.int .i64 0, .int .i64 0, .int .i64 0, .int .i64 0] 24))).trans hs4.upon (fun _ _ h => h))
           have K4 := Lib.hid ((K3.out.on (bl_alloc (Below.refl _ _) (.cells #[.int .i64 0, .int .i64 0, .int .i64 0, .int .i64 0] 24))).step hs4 hh4)
           have RZ4 := Lib.hid ((rowAt.made w3 24 [.int .i64 0, .int .i64 0, .int .i64 0, .int .i64 0]).upon hs4.upon (fun hf => by have := NFL.out _ hf; have := S3.out; omega))
           obtain ⟨z0, z1, z2, z3⟩ := cells4 RZ4.out
           have f0 := RZ4.out.free 0
           have f1 := RZ4.out.free 1
           have f2 := RZ4.out.free 2
           have f3 := RZ4.out.free 3
           have lz := RZ4.out.lt
           have Y4 := Lib.hid (show (fun w' => w'.cell? ⟨b1, 0, none⟩ = some (.pointer (some ⟨p, 0, none⟩)) ∧ w'.cell? ⟨hb, 0, none⟩ = some (.int .i64 3) ∧ w'.cell? ⟨hb, 1, none⟩ = some (.int .i64 10) ∧ w'.cell? ⟨hb, 2, none⟩ = some (.int .i64 0) ∧ w'.cell? ⟨hb, 3, none⟩ = some (.int .i64 8)) w4 from And.intro ((K4.out.two.cell 0).trans rfl) (cells4 HV4.out))
           obtain ⟨y4, h0, h1, h2, h3⟩ := Y4.out
           have l4 := K4.out.two.lt
           have l5 := HV4.out.lt
           clear hin hs4 hh4))
      all_goals
        go_wp2_with fail
        go_meet
        first
          | exact cutX_last K4.out HV4.out U4.out
          | exact cutX_set K4.out HV4.out RZ4.out (fun hf => by have := NFL.out _ hf; have := S3.out; omega) (by have := ZL.out; have := S3.out; omega) (by have := HV.out.lt; have := S3.out; omega) (by have := ZB.out; have := S3.out; omega) U4.out (by have := S3.out; omega)
    case rest =>
      obtain ⟨hu, gb, rfl, rfl, rfl, hk2, hh2, hg2⟩ := hcut
      obtain ⟨W1, hW1⟩ : ∃ W1, wc.alloc (.cells #[.int .i64 6, .int .i64 1, .int .i64 0, .slice none 0 0, .int .i64 1, .int .i64 0, .int .i64 0, .slice none 0 0] 58) = W1 := ⟨_, rfl⟩
      obtain ⟨W2, hW2⟩ : ∃ W2, W1.alloc (.cells #[.int .i64 1, .int .i64 1, .int .i64 2, .string ⟨#[]⟩, .int .i64 0, .int .i64 0, .int .i64 1, .string ⟨#[]⟩, .int .i64 0, .int .i64 0, .int .i64 0, .string ⟨#[]⟩] 51) = W2 := ⟨_, rfl⟩
      have bw1 : Below wc.heap.size wc W1 := by rw [← hW1]; exact bl_alloc (Below.refl _ _) _
      have bw2 : Below W1.heap.size W1 W2 := by rw [← hW2]; exact bl_alloc (Below.refl _ _) _
      have bw := bl_call bw1 bw2
      have FR0 : rowAt W1 wc.heap.size 58 [.int .i64 6, .int .i64 1, .int .i64 0, .slice none 0 0, .int .i64 1, .int .i64 0, .int .i64 0, .slice none 0 0] := by rw [← hW1]; exact rowAt.made _ _ _
      have FR := Lib.hid (FR0.below bw2 FR0.lt)
      have LR := Lib.hid (show rowAt W2 W1.heap.size 51 (ceL twoM) by rw [← hW2]; exact rowAt.made _ _ _)
      have HX := Lib.hid (hh2.below bw hh2.lt)
      have GX := Lib.hid (hg2.below bw hg2.lt)
      have RX := Lib.hid ((RM.out.upon hu (fun k _ hk => .inl hk)).below bw)
      have BX := Lib.hid (bl_call hk2.below bw)
      have TX := Lib.hid (HT.out.below BX.out)
      have B0 := Lib.hid (Below.refl W2.heap.size W2)
      obtain ⟨h0, h1, h2, h3⟩ := cells4 HX.out
      obtain ⟨g0, g1, g2, g3⟩ := cells4 GX.out
      have lh := HX.out.lt
      have lg := GX.out.lt
      clear hu hk2 hh2 hg2 bw1 bw2 bw FR0
      have q1 : ∀ w, (Op.equalIn 10000 24 (.agg #[.int .i64 0, .int .i64 0, .int .i64 0, .int .i64 0]) (.agg #[.int .i64 0, .int .i64 0, .int .i64 0, .int .i64 0])).run Tryz.prog w = .ok true w := fun w => by kernel_rfl
      have hsl : ∀ (g : Nat) W, (Instr.slice 41 (.slice (some ⟨g, 0, none⟩) 5 5) (some (.int .i64 1)) none none).run Tryz.prog W = .ok (.slice (some ⟨g, 4, none⟩) 4 4) W := fun g W => by
        obtain ⟨ic, hic, hc0, hc1, hc2⟩ := info_parts info_cell
        have h := run_slice_from_w (P := Tryz.prog) 41 51 under_cells hic (some ⟨g, 0, none⟩) (n := 5) (c := 5) (k := 1) (by omega) W
        rw [hc1] at h
        exact h
      go_wp2_with fail
      clear hW1 hW2
      refine (one_any _).mono ?_
      rintro e v1 ⟨rfl, hr, hb1⟩
      have O1 := Lib.hid hr
      have B1 := Lib.hid (bl_call B0.out hb1)
      clear hr hb1
      go_wp2_with fail
      refine (keepMessage_is (xs := oneM) (ys := oneM) (RX.out.below B1.out) (row_rd (F := fun _ => False) O1.out (fun h => h)) (by decide) (B := true) (by simp)).mono ?_
      rintro e v2 ⟨rfl, hb2⟩
      have B2 := Lib.hid (bl_call B1.out hb2)
      clear hb2
      obtain ⟨g0, g1, g2, g3⟩ := cells4 (GX.out.below B2.out GX.out.lt)
      have lg2 := (GX.out.below B2.out GX.out.lt).lt
      go_wp2_with fail
      refine (one_any _).mono ?_
      rintro e v3 ⟨rfl, hr, hb3⟩
      have O3 := Lib.hid hr
      have B3 := Lib.hid (bl_call B2.out hb3)
      clear hr hb3
      go_wp2_with fail
      refine (dwords_is (m := oneM) (n := 8) (by decide +kernel) (row_rd (F := fun _ => False) O3.out (fun h => h))).mono ?_
      rintro e v4 ⟨rfl, hb4⟩
      have B4 := Lib.hid (bl_call B3.out hb4)
      clear hb4
      go_wp2_with fail
      refine (one_any _).mono ?_
      rintro e v5 ⟨rfl, hr, hb5⟩
      have O5 := Lib.hid hr
      have B5 := Lib.hid (bl_call B4.out hb5)
      clear hr hb5
      go_wp2_with fail
      refine (dgood_is one_good (row_rd (F := fun _ => False) O5.out (fun h => h))).mono ?_
      rintro e v6 ⟨rfl, hb6⟩
      have B6 := Lib.hid (bl_call B5.out hb6)
      clear hb6
      go_wp2_with fail
      refine (one_any _).mono ?_
      rintro e v7 ⟨rfl, hr, hb7⟩
      have O7 := Lib.hid hr
      have B7 := Lib.hid (bl_call B6.out hb7)
      clear hr hb7
      go_wp2_with fail
      refine (dgood_is (m := oneM.tail) one_tail (rd_tailD O7.out)).mono ?_
      rintro e v8 ⟨rfl, hb8⟩
      have B8 := Lib.hid (bl_call B7.out hb8)
      clear hb8
      go_wp2_with fail
      refine (wak_fits (m := twoM) (TX.out.below B8.out) (FR.out.below B8.out FR.out.lt) (row_rd (F := fun _ => False) (LR.out.below B8.out LR.out.lt) (fun h => h)) two_good wak_yes).mono ?_
      rintro e v9 ⟨rfl, hb9⟩
      have B9 := Lib.hid (bl_call B8.out hb9)
      clear hb9
      go_wp2_with fail
      refine (one_any _).mono ?_
      rintro e v10 ⟨rfl, hr, hb10⟩
      have O10 := Lib.hid hr
      have B10 := Lib.hid (bl_call B9.out hb10)
      clear hr hb10
      go_wp2_with fail
      refine (wak_fits (m := oneM) (TX.out.below B10.out) (FR.out.below B10.out FR.out.lt) (row_rd (F := fun _ => False) O10.out (fun h => h)) one_good wak_no).mono ?_
      rintro e v11 ⟨rfl, hb11⟩
      have B11 := Lib.hid (bl_call B10.out hb11)
      clear hb11
      go_wp2_with fail
      refine (wak_fits2 (m := twoM) (TX.out.below B11.out) (FR.out.below B11.out FR.out.lt) (row_rd (F := fun _ => False) (LR.out.below B11.out LR.out.lt) (fun h => h))).mono ?_
      rintro e v12 ⟨rfl, hb12⟩
      have B12 := Lib.hid (bl_call B11.out hb12)
      clear hb12
      go_wp2_with fail
      go_ret
      exact ⟨rfl, bl_call BX.out B12.out⟩
end Go.Proofs.YtffnafnkkbmnpaaGreatDoor

/-
  Plain facts of the law DataShares: an object that has one word twice, what goes out of it, and the ring.
  Conditions: as each states.
-/
namespace Go.Proofs.YtffnafnkkbmnpaaGreatDoor
set_option linter.unusedVariables false
set_option linter.unusedSimpArgs false
open Go.ChangeShapes Go.WideShapes Go.ChangeAt Go.RowKit
set_option maxRecDepth 100000

def shOb (x : Int) : Ob := ⟨1, 0, [x, x], []⟩
theorem shOb_words (x : Int) : (shOb x).words = 3 := by rfl
theorem shOb_may (x : Int) : (shOb x).may = true := by rfl
theorem goodMs_cons {m : List PCe} (h : goodMs m = true) : m ≠ [] := goodMs_ne h
section
variable {first : Int} {obs : List Ob} {x : Int} {m : List PCe}
theorem outL_first (h : outL first obs [x] m) : ∃ p, lookW first obs x = some p := by
  cases m with
  | nil => cases h
  | cons c m =>
    obtain ⟨y, r, fs, e, h1, _⟩ := h
    cases e
    exact ⟨_, h1⟩
theorem share_put {A : Ar} {base half space tp : Int} (ho : A.objs base half space tp = some obs) (hm : outL (space * half) obs [x] m) (hr : tp + 3 ≤ half) : A.putOk base half space tp (shOb x) = true := by
  obtain ⟨p, hp⟩ := outL_first hm
  have hf := look_field hp
  unfold Ar.putOk
  rw [ho, shOb_may, shOb_words]
  simp only [shOb, List.all_cons, List.all_nil, hf, Bool.true_and, Bool.and_true, decide_eq_true_eq]
  omega
theorem look_place {o : Ob} (h0 : 0 ≤ first) {k : Nat} (h : objAt obs k = some o) (h1 : first + (k : Int) ≤ 4294967295) (hk : o.kind = 1) : lookW first obs (wPlace (first + (k : Int))) = some (blkCe o.tag o.fs.length, o.fs) := by
  obtain ⟨_, h2, _⟩ := place_two (x := first + (k : Int)) (by omega) h1
  unfold lookW
  rw [h2, refers_place h h0 h1]
  simp only [h, hk, if_true]
  rfl
theorem share_look (X : List Ob) (h0 : 0 ≤ first) (h1 : first + ((flat obs).length : Int) ≤ 4294967295) : lookW first ((obs ++ [shOb x]) ++ X) (wPlace (first + ((flat obs).length : Int))) = some (blkCe 0 2, [x, x]) :=
  look_place (o := shOb x) h0 (objAt_append X (objAt_here obs [] (shOb x))) h1 rfl
theorem share_out (h0 : 0 ≤ first) (h1 : first + ((flat obs).length : Int) ≤ 4294967295) (hm : outL first obs [x] m) : outL first (obs ++ [shOb x]) [wPlace (first + ((flat obs).length : Int))] (blkCe 0 2 :: (m ++ m)) := by
  have h := share_look (x := x) [] h0 h1
  rw [List.append_nil] at h
  exact ⟨_, [], [x, x], rfl, h, outL_app m m [x] [x] (outL_append _ _ _ hm) (outL_append _ _ _ hm)⟩
theorem share_set {A : Ar} (ok : A.Ok) {base half space tp : Int} {X : List Ob} (ho : A.objs base half space tp = some ((obs ++ [shOb x]) ++ X)) (hb : (flat obs).length ≤ 2000) :
    ∃ z, A.setAt base half space tp (wPlace (space * half + ((flat obs).length : Int))) 1 (wPlace (space * half + ((flat obs).length : Int))) = some z ∧
      ∃ obs', (A.set base z (wPlace (space * half + ((flat obs).length : Int)))).objs base half space tp = some obs' ∧ outP (space * half) obs' 100 [wPlace (space * half + ((flat obs).length : Int))] = none := by
  obtain ⟨h2, h3, h4, h5, h6⟩ := objs_top ok ho
  have hgo := objAt_append X (objAt_here obs [] (shOb x))
  have h1 : space * half + ((flat obs).length : Int) ≤ 4294967295 := by omega
  have hr := refers_place hgo h3 h1
  have hf : fieldOk (space * half) ((obs ++ [shOb x]) ++ X) (wPlace (space * half + ((flat obs).length : Int))) = true := by
    unfold fieldOk; rw [hr]; rfl
  have hp := place_two (x := space * half + ((flat obs).length : Int)) (by omega) h1
  have hw : fitW (wPlace (space * half + ((flat obs).length : Int))) := by rw [hp.1]; constructor <;> omega
  refine ⟨space * half + ((flat obs).length : Int) + 1 + ((1 : Nat) : Int), ?_, _, objs_set ok ho hgo (i := 1) (by simp [shOb]) hf hw, ?_⟩
  · unfold Ar.setAt
    rw [ho]
    simp only [hr, hgo]
    rw [if_pos ⟨by omega, by simp [shOb], hf⟩]
    rfl
  · have hgo2 := objAt_setAll_same (i := 1) (wPlace (space * half + ((flat obs).length : Int))) hgo
    have hl := look_place h3 hgo2 h1 (by rfl)
    cases hq : outP (space * half) (setAll ((obs ++ [shOb x]) ++ X) (flat obs).length 1 (wPlace (space * half + ((flat obs).length : Int)))) 100 [wPlace (space * half + ((flat obs).length : Int))] with
    | none => rfl
    | some q => exact absurd ((outP_iff _ _ _).1 hq).1 (outL_ring (u := [x]) (v := []) hl _ _ (Nat.le_refl _))
end
def shA0 : Ar := Ar.laid (List.replicate 600 0)
set_option maxRecDepth 1000000 in
theorem shA0_objs : shA0.objs 3 300 0 0 = some [] := by kernel_rfl
end Go.Proofs.YtffnafnkkbmnpaaGreatDoor

/-
  For every message the law DataShares returns true, and its argument reads as it did. Condition: the three tables of package op read when the call begins as the program's text lays them (the card ties them).
-/
namespace Go.Proofs.YtffnafnkkbmnpaaGreatDoor.dataShares
set_option linter.unusedVariables false
set_option linter.unusedSimpArgs false
open Go.ChangeShapes Go.WideShapes Go.ChangeAt Go.RowKit
set_option maxRecDepth 100000

theorem own : ownKnob Tryz.prog.godebug = none := by kernel_rfl
theorem laidOut : laidOutB Tryz.prog = true := by kernel_rfl

theorem rd_src {S : Nat → Prop} {w : World} {a : Option Addr} {c n : Nat} {cs : List Value} (h : rdAt S w (.slice a n c) n cs) : n = 0 ∨ ∃ ad, a = some ad ∧ ∀ j u, cs[j]? = some u → w.cell? (ad.add j) = some u := by
  obtain ⟨a', c', e, h⟩ := h
  cases e
  rcases h with h | ⟨b, o, rfl, _, _, hc⟩
  · exact .inl h
  · refine .inr ⟨_, rfl, fun j u hj => ?_⟩
    rw [Addr.add_lit]
    exact hc j u hj

theorem in_yes {A : Ar} {base half space top tp : Int} {obs : List Ob} {m : List PCe} {w w' : World} {p : Nat} {F : Nat → Prop} {e : Ending} (ok : A.Ok) (ho : A.objs base half space top = some obs) (hg : goodMs m = true) (hw : (wordsM m : Int) ≤ half - top) (ht : top + (wordsM m : Int) = tp) (h : InT A base half space top m p F w e w') :
    Step F F w w' ∧ ∃ A' X w0, e = .returned (.tuple #[heapV base half space tp, .int .u64 w0, .bool true]) ∧ Held w' p F A' ∧ A'.objs base half space tp = some (obs ++ X) ∧ outL (space * half) (obs ++ X) [w0] m ∧ (flat X).length = wordsM m ∧ fitW w0 := by
  obtain ⟨hs, h⟩ := h
  refine ⟨hs, ?_⟩
  rcases h with ⟨obs', A', X, w0, h1, _, _, h4, h5, h6, h7, h8, c, r, _, h10⟩ | ⟨h1, _⟩
  · rw [ho] at h1
    cases h1
    rw [ht] at h4 h6
    obtain ⟨t1, t2, t3, t4, t5⟩ := objs_top ok ho
    exact ⟨A', X, w0, h4, h5, h6, h7, h8, by rw [h10]; exact wordOf_fit _ _ _ t2 (by omega)⟩
  · rw [ho, hg] at h1
    simp at h1
    omega
theorem out_yes {R : Option (List PCe)} {m : List PCe} {w w' : World} {e : Ending} (hR : R = some m) (h : OutT R w e w') :
    Below w.heap.size w w' ∧ ∃ oa oc, e = .returned (.tuple #[.slice oa m.length oc, .bool true]) ∧ w'.ownsRow w.heap.size 51 4 (.slice oa m.length oc) m.length (ceL m) := by
  obtain ⟨hb, h⟩ := h
  refine ⟨hb, ?_⟩
  rcases h with ⟨m', v, h3, h4, h5⟩ | ⟨h3, _⟩
  · rw [hR] at h3
    cases h3
    obtain ⟨oa, oc, rfl⟩ := owns_slice h5
    exact ⟨oa, oc, h4, h5⟩
  · rw [hR] at h3; cases h3
theorem out_no {R : Option (List PCe)} {w w' : World} {e : Ending} (hR : R = none) (h : OutT R w e w') :
    Below w.heap.size w w' ∧ e = .returned (.tuple #[.slice none 0 0, .bool false]) := by
  obtain ⟨hb, h⟩ := h
  refine ⟨hb, ?_⟩
  rcases h with ⟨m', v, h3, h4, h5⟩ | ⟨h3, h4⟩
  · rw [hR] at h3; cases h3
  · exact h4
theorem put_share {A : Ar} {base half space top : Int} {obs : List Ob} {x : Int} {m : List PCe} {w w' : World} {p : Nat} {F : Nat → Prop} {e : Ending} (ok : A.Ok) (ho : A.objs base half space top = some obs) (hm : outL (space * half) obs [x] m) (hr : top + 3 ≤ half) (hx : fitW x)
    {tp pl : Int} (htp : top + 3 = tp) (hpl : wPlace (space * half + top) = pl) (h : PutT A base half space top (shOb x) w p F e w') :
    Step F F w w' ∧ ∃ A', e = .returned (.tuple #[heapV base half space tp, .int .u64 pl, .bool true]) ∧ Held w' p F A' ∧ A'.objs base half space tp = some (obs ++ [shOb x]) := by
  subst htp hpl
  obtain ⟨hs, h⟩ := h
  refine ⟨hs, ?_⟩
  have hok := share_put ho hm hr
  rcases h with ⟨_, h2, h3⟩ | ⟨h1, _⟩
  · have := objs_put ok ho hok (fun y hy => by simp [shOb] at hy; exact hy ▸ hx)
    rw [shOb_words] at this h2
    exact ⟨_, h2, h3, this⟩
  · rw [hok] at h1; cases h1
theorem set_share {A : Ar} {base half space top : Int} {obs X : List Ob} {x : Int} {w w' : World} {p : Nat} {F : Nat → Prop} {e : Ending} (ok : A.Ok) (ho : A.objs base half space top = some ((obs ++ [shOb x]) ++ X)) {n : Nat} (hn : (flat obs).length = n) (hb : n ≤ 2000)
    {pl : Int} (hpl : wPlace (space * half + (n : Int)) = pl) (h : SetT A base half space top pl 1 pl w p F e w') :
    Step F F w w' ∧ e = .returned (.bool true) ∧ ∃ A' obs', Held w' p F A' ∧ A'.objs base half space top = some obs' ∧ outP (space * half) obs' 100 [pl] = none := by
  subst hn hpl
  obtain ⟨hs, h⟩ := h
  refine ⟨hs, ?_⟩
  obtain ⟨z, hz, obs', h1, h2⟩ := share_set ok ho hb
  rcases h with ⟨q, h3, h4, h5⟩ | ⟨h3, _⟩
  · rw [hz] at h3
    cases h3
    exact ⟨h4, _, _, h5, h1, h2⟩
  · rw [hz] at h3; cases h3
theorem owns_cap {w : World} {B : Nat} {T : TypeId} {s n c : Nat} {a : Option Addr} {xs : List Value} (h : w.ownsRow B T s (.slice a n c) n xs) (hn : n ≠ 0) : n ≤ c := by
  rcases owns_parts h with ⟨_, h1, _⟩ | ⟨g, cap, rest, e, _, _, _, _, h3, _⟩
  · omega
  · cases e; exact h3

theorem make_shares (w : World) : (Instr.makeSlice 22 (.int .i64 600) (.int .i64 600)).run Tryz.prog w = .ok (.slice (some ⟨w.heap.size, 0, none⟩) 600 600) (w.alloc (.cells ⟨wordsL (List.replicate 600 0)⟩ 42)) := by
  have h := make_words 600 (by omega) w
  rw [show (List.replicate 600 (Value.int .u64 0)) = wordsL (List.replicate 600 0) by simp [wordsL]] at h
  exact h
theorem rgood_is {S : Nat → Prop} {w : World} {v : Value} {m : List PCe} {b : Bool} (hb : goodMs m = b) (h : rdAt S w v m.length (ceL m)) :
    Calls Tryz.prog 14 #[v] w fun e w' => e = .returned (.bool b) ∧ Below w.heap.size w w' := hb ▸ rgoodMs_any h
theorem rwords_is {S : Nat → Prop} {w : World} {v : Value} {m : List PCe} {n : Nat} (hn : wordsM m = n) (hg : goodMs m = true) (h : rdAt S w v m.length (ceL m)) :
    Calls Tryz.prog 15 #[v] w fun e w' => e = .returned (.int .i64 (n : Int)) ∧ Below w.heap.size w w' := hn ▸ rwordsM_any h hg
set_option maxHeartbeats 16000000 in
theorem walk (sa : Option Addr) (sc : Nat) (m : List PCe) (w : World) (hc1 : m.length ≤ sc) (hr1 : rdAt (fun _ => False) w (.slice sa m.length sc) m.length (ceL m)) (hl1 : m.length ≤ reachBytes) (T : OpTab w) :
    Calls Tryz.prog 5 #[.slice sa m.length sc] w fun e w' => e = .returned (.bool true) ∧ Below w.heap.size w w' := by
  have HA := Lib.hid (hr1.off (T := fun k => w.heap.size ≤ k) (fun k hk ht => by omega))
  have B0 := Lib.hid (Below.refl w.heap.size w)
  have HC := Lib.hid hc1
  have HT := Lib.hid T
  clear hc1 hr1 hl1 T
  go_enter Tryz.func5, Tryz.ntmps5
  go_wp2_with fail
  refine (largeMsg_any HA.out).mono ?_
  rintro e w1 ⟨x1, rfl, hb⟩
  have B1 := Lib.hid (bl_call B0.out hb)
  clear hb
  cases x1
  · by_cases h40 : 40 < m.length
    · have d40 : (40 : Int) < (m.length : Int) := by omega
      clear h40
      go_wp2_with fail
      refine (dwakes_any _ (HT.out.below B1.out)).mono ?_
      rintro e wz ⟨rfl, hb⟩
      have BZ := Lib.hid (bl_call B1.out hb)
      clear hb
      go_wp2_with fail
      go_ret
      exact ⟨rfl, BZ.out⟩
    · have d40 : ¬ (40 : Int) < (m.length : Int) := by omega
      clear h40
      cases hg : goodMs m
      · have G1 := Lib.hid hg
        clear hg
        go_wp2_with fail
        refine (rgood_is G1.out (HA.out.below B1.out)).mono ?_
        rintro e w2 ⟨rfl, hb⟩
        have B2 := Lib.hid (bl_call B1.out hb)
        clear hb
        go_wp2_with fail
        refine (dwakes_any _ (HT.out.below B2.out)).mono ?_
        rintro e wz ⟨rfl, hb⟩
        have BZ := Lib.hid (bl_call B2.out hb)
        clear hb
        go_wp2_with fail
        go_ret
        exact ⟨rfl, BZ.out⟩
      · have G1 := Lib.hid hg
        clear hg
        obtain ⟨q, hq⟩ : ∃ q, wordsM m = q := ⟨_, rfl⟩
        have Q := Lib.hid hq
        clear hq
        go_wp2_with fail
        refine (rgood_is G1.out (HA.out.below B1.out)).mono ?_
        rintro e w2 ⟨rfl, hb⟩
        have B2 := Lib.hid (bl_call B1.out hb)
        clear hb
        go_wp2_with fail
        refine (rwords_is Q.out G1.out (HA.out.below B2.out)).mono ?_
        rintro e w3 ⟨rfl, hb⟩
        have B3 := Lib.hid (bl_call B2.out hb)
        clear hb
        by_cases h90 : 90 < q
        · have d90 : (90 : Int) < (q : Int) := by omega
          clear h90
          go_wp2_with fail
          refine (dwakes_any _ (HT.out.below B3.out)).mono ?_
          rintro e wz ⟨rfl, hb⟩
          have BZ := Lib.hid (bl_call B3.out hb)
          clear hb
          go_wp2_with fail
          go_ret
          exact ⟨rfl, BZ.out⟩
        · have d90 : ¬ (90 : Int) < (q : Int) := by omega
          clear h90
          have hmk := make_shares
          go_wp2_with fail
          refine (lay_any _ _ (List.replicate 600 0) (readsAt.row (rest := []) (by rw [List.append_nil]; exact rowAt.made w3 _ _)) (fun x hx => by obtain rfl := List.eq_of_mem_replicate hx; exact ⟨by decide, by decide⟩) (by simp)).mono ?_
          rintro e w4 ⟨p, p2, F, G, rfl, h1, h2, h3, h4, h5, h6⟩
          clear h2 h3 h5
          have H1 := Lib.hid (show Held w4 p F shA0 from h1)
          have H4' := Lib.hid (fun k (hk : F k) => show w.heap.size ≤ k by have := h4 k hk; have := B3.out.size; simp at *; omega)
          have H6 := Lib.hid (bl_call B3.out (bl_call (bl_alloc (Below.refl w3.heap.size w3) (.cells ⟨wordsL (List.replicate 600 0)⟩ 42)) h6))
          clear h1 h4 h6 hmk
          obtain ⟨W, hW⟩ : ∃ W, w4.alloc (.cells #[.pointer (some ⟨p, 0, none⟩), .pointer (some ⟨p2, 0, none⟩)] 33) = W := ⟨_, rfl⟩
          have K : Hid (Wd w p p2 w4.heap.size F shA0 W) := by
            have hb : Below w4.heap.size w4 W := by rw [← hW]; exact bl_alloc (Below.refl _ _) _
            exact ⟨H1.out.below hb, by rw [← hW]; exact rowAt.made _ _ _, fun hf => by have := H1.out.lt _ hf; omega, H6.out.size, H4'.out, bl_call H6.out hb⟩
          obtain ⟨b1, hb1⟩ : ∃ b1, w4.heap.size = b1 := ⟨_, rfl⟩
          rw [hb1] at K
          have a0 : W.cell? ⟨b1, 0, none⟩ = some (.pointer (some ⟨p, 0, none⟩)) := (K.out.two.cell 0).trans rfl
          have a1 : W.cell? ⟨b1, 1, none⟩ = some (.pointer (some ⟨p2, 0, none⟩)) := (K.out.two.cell 1).trans rfl
          have al := K.out.two.lt
          go_wp2_with fail
          clear hW
          clear a0 a1 al
          have KLT := K.out.held.lt
          have RM := Lib.hid (show rdAt F W (.slice sa m.length sc) m.length (ceL m) from (HA.out.below K.out.below).off (fun k _ hf => H4'.out k hf))
          clear KLT
          refine (in_any (m := m) K.out.held 3 300 0 0 RM.out HC.out).mono ?_
          rintro e w5 hin
          obtain ⟨hs5, A1, X, x, rfl, hh5, ho5, hl5, hf5, hx5⟩ := in_yes K.out.held.ok shA0_objs G1.out (by rw [Q.out]; omega) (by rw [Q.out, Int.zero_add]) hin
          rw [Q.out] at hf5
          rw [List.nil_append] at ho5 hl5
          have K5 := Lib.hid (K.out.step hs5 hh5)
          have O1 := Lib.hid ho5
          have L1 := Lib.hid hl5
          have N1 := Lib.hid hf5
          have X1 := Lib.hid hx5
          clear hin hs5 hh5 ho5 hl5 hf5 hx5
          obtain ⟨W6, hW6⟩ : ∃ W6, w5.alloc (.cells #[.int .i64 3, .int .i64 300, .int .i64 0, .int .i64 (q : Int)] 24) = W6 := ⟨_, rfl⟩
          obtain ⟨h6, hh6⟩ : ∃ h6, w5.heap.size = h6 := ⟨_, rfl⟩
          have K6 := Lib.hid (show Wd w p p2 b1 F A1 W6 by rw [← hW6]; exact K5.out.on (bl_alloc (Below.refl _ _) _))
          have R6 := Lib.hid (show rowAt W6 h6 24 [.int .i64 3, .int .i64 300, .int .i64 0, .int .i64 (q : Int)] by rw [← hW6, ← hh6]; exact rowAt.made _ _ _)
          have F6 := Lib.hid (show ¬ F h6 from fun hf => by have := K5.out.held.lt _ hf; omega)
          have a0 : W6.cell? ⟨b1, 0, none⟩ = some (.pointer (some ⟨p, 0, none⟩)) := (K6.out.two.cell 0).trans rfl
          obtain ⟨c0, c1, c2, c3⟩ := cells4 R6.out
          obtain ⟨W7, hW7⟩ : ∃ W7, W6.alloc (.cells #[.int .u64 x, .int .u64 x] 42) = W7 := ⟨_, rfl⟩
          have K7 := Lib.hid (show Wd w p p2 b1 F A1 W7 by rw [← hW7]; exact K6.out.on (bl_alloc (Below.refl _ _) _))
          have R7 := Lib.hid (show rowAt W7 h6 24 [.int .i64 3, .int .i64 300, .int .i64 0, .int .i64 (q : Int)] by rw [← hW7]; exact R6.out.alloc _)
          have V7 := Lib.hid (show ReadsOff W7 F (some ⟨W6.heap.size, 0, none⟩) [x, x] from fun j u hj => ⟨_, _, rfl, fun hf => by have := K6.out.held.lt _ hf; omega, by
            have hr : rowAt W7 W6.heap.size 42 (wordsL [x, x]) := by rw [← hW7]; exact rowAt.made _ _ _
            rw [Nat.zero_add, hr.cell]
            exact hj⟩)
          go_wp2_with fail
          clear a0 c0 c1 c2 c3 hW6 hW7 hh6
          obtain ⟨pl, hpl⟩ : ∃ pl, wPlace (0 * 300 + (q : Int)) = pl := ⟨_, rfl⟩
          obtain ⟨t9, ht9⟩ : ∃ t9, (q : Int) + 3 = t9 := ⟨_, rfl⟩
          have PL := Lib.hid hpl
          have T9 := Lib.hid ht9
          have PF : Hid (fitW pl) := Lib.hid (by rw [← PL.out, (place_two (x := 0 * 300 + (q : Int)) (by omega) (by omega)).1]; constructor <;> omega)
          clear hpl ht9
          refine (put_any K7.out.held 3 300 0 q 1 0 (some ⟨W6.heap.size, 0, none⟩) [x, x] 2 ⟨#[]⟩ V7.out (fun y hy => by simp at hy; exact hy ▸ X1.out)).mono ?_
          rintro e w8 hput
          obtain ⟨hs8, A2, rfl, hh8, ho8⟩ := put_share K7.out.held.ok O1.out L1.out (by omega) X1.out T9.out PL.out hput
          have K8 := Lib.hid (K7.out.step hs8 hh8)
          have O2 := Lib.hid ho8
          clear hput hs8 hh8 ho8 V7
          obtain ⟨W9, hW9⟩ : ∃ W9, w8.alloc (.cells #[.int .i64 3, .int .i64 300, .int .i64 0, .int .i64 t9] 24) = W9 := ⟨_, rfl⟩
          obtain ⟨h9, hh9⟩ : ∃ h9, w8.heap.size = h9 := ⟨_, rfl⟩
          have K9 := Lib.hid (show Wd w p p2 b1 F A2 W9 by rw [← hW9]; exact K8.out.on (bl_alloc (Below.refl _ _) _))
          have R9 := Lib.hid (show rowAt W9 h9 24 [.int .i64 3, .int .i64 300, .int .i64 0, .int .i64 t9] by rw [← hW9, ← hh9]; exact rowAt.made _ _ _)
          have F9 := Lib.hid (show ¬ F h9 from fun hf => by have := K8.out.held.lt _ hf; omega)
          have a0 : W9.cell? ⟨b1, 0, none⟩ = some (.pointer (some ⟨p, 0, none⟩)) := (K9.out.two.cell 0).trans rfl
          obtain ⟨c0, c1, c2, c3⟩ := cells4 R9.out
          go_wp2_with fail
          clear a0 c0 c1 c2 c3 hW9 hh9
          obtain ⟨tw, htw⟩ : ∃ tw, blkCe 0 2 :: (m ++ m) = tw := ⟨_, rfl⟩
          have TL : Hid (tw.length = 1 + m.length + m.length) := Lib.hid (by rw [← htw]; simp; omega)
          have TG : Hid (goodMs tw = true) := Lib.hid (by rw [← htw]; exact good_two G1.out G1.out (t := 0) (by decide) (by omega))
          have TQ : Hid (wordsM tw = 3 + q + q) := Lib.hid (by rw [← htw, wordsM_cons, wordsM_app, Q.out, show wordsC (blkCe 0 2) = 3 by decide +kernel]; omega)
          have TC : Hid (ceL [blkCe 0 2] ++ ceL m ++ ceL m = ceL tw) := Lib.hid (by rw [← htw]; simp [ceL])
          have HR9 : Hid ((match A2.objs 3 300 0 t9 with | some obs => outP (0 * 300) obs 100 [pl] | none => none) = some tw) := Lib.hid (by
            rw [O2.out]
            show outP (0 * 300) (X ++ [shOb x]) 100 [pl] = some tw
            rw [outP_iff]
            refine ⟨?_, by rw [TL.out]; omega⟩
            have h := share_out (first := 0 * 300) (obs := X) (x := x) (m := m) (by decide) (by rw [N1.out]; omega) L1.out
            rw [N1.out, PL.out, htw] at h
            exact h)
          clear htw
          refine (out_any K9.out.held 3 300 0 t9 pl PF.out).mono ?_
          rintro e w10 hout
          obtain ⟨b10, oa, oc, rfl, hom⟩ := out_yes HR9.out hout
          have K10 := Lib.hid (K9.out.on b10)
          have R10 := Lib.hid (R9.out.below b10 R9.out.lt)
          have M10 : Hid (rdAt F w10 (.slice oa tw.length oc) tw.length (ceL tw)) := Lib.hid (rdAt.of_owns hom (fun g hg hk => by have := (hom.lt g hg); have := K9.out.held.lt _ hk; omega))
          have CAP : Hid (tw.length ≤ oc) := Lib.hid (owns_cap hom (by rw [TL.out]; omega))
          clear hout b10 hom
          obtain ⟨WA, hWA⟩ : ∃ WA, w10.alloc (.cells #[.int .i64 1, .int .i64 0, .int .i64 2, .string ⟨#[]⟩] 51) = WA := ⟨_, rfl⟩
          have bA : Below w10.heap.size w10 WA := by rw [← hWA]; exact bl_alloc (Below.refl _ _) _
          have rA : rowAt WA w10.heap.size 51 (ceL [blkCe 0 2]) := by rw [← hWA]; exact rowAt.made _ _ _
          have OA := Lib.hid (show WA.ownsRow w10.heap.size 51 4 (.slice (some ⟨w10.heap.size, 0, none⟩) 1 1) 1 (ceL [blkCe 0 2]) from owns_mk (rest := []) (by rw [List.append_nil]; exact rA) (Nat.le_refl _) rfl rfl (Nat.le_refl _) (by decide))
          have BA := Lib.hid bA
          have RMA := Lib.hid (HA.out.below (bl_call K10.out.below bA))
          have SA := Lib.hid (rd_src RMA.out)
          have hsz : w10.heap.size ≤ WA.heap.size := bA.size
          have KS := Lib.hid K10.out.below.size
          clear bA rA
          obtain ⟨ic, hic, hc0, hc1, hc2⟩ := info_parts info_cell
          go_wp2_with (first
            | (at_builtin; refine wpList_append_w (by rfl) _ _ _ (by rfl) w10.heap.size 51 ic (.agg #[.int .i64 0, .int .i64 0, .int .i64 0, .string ⟨#[]⟩]) 4 40 under_cells hic hc0 hc1 hc2 (by rfl) (by decide) (.slice (some ⟨w10.heap.size, 0, none⟩) 1 1) 1 (ceL [blkCe 0 2]) (by rfl) OA.out sa m.length sc (ceL m) (by rfl) (ceL_length _) (SA.out) (ceL_one) (by simp only [maxLen]; omega) (by omega) hsz ?_; intro v11 w11 ho11 hg11 hb11; obtain ⟨a11, c11, rfl⟩ := owns_slice ho11; have O11 := Lib.hid ho11; have B11 := Lib.hid (BA.out.trans ((grown_upon hg11).belowB BA.out.size (fun k e => (OA.out.lt k e).1))); have S11 := Lib.hid (rd_src (RMA.out.upon (grown_upon hg11) (fun k hk e => by have := (OA.out.lt k e).1; have := KS.out; omega))); have hz11 : w10.heap.size ≤ w11.heap.size := Nat.le_trans hsz hg11.size; clear ho11 hg11 hb11)
            | (at_builtin; refine wpList_append_w (by rfl) _ _ _ (by rfl) w10.heap.size 51 ic (.agg #[.int .i64 0, .int .i64 0, .int .i64 0, .string ⟨#[]⟩]) 4 40 under_cells hic hc0 hc1 hc2 (by rfl) (by decide) (.slice a11 (1 + m.length) c11) (1 + m.length) (ceL [blkCe 0 2] ++ ceL m) (by rfl) O11.out sa m.length sc (ceL m) (by rfl) (ceL_length _) (S11.out) (ceL_one) (by simp only [maxLen]; omega) (by omega) hz11 ?_; intro v12 w12 ho12 hg12 hb12; obtain ⟨a12, c12, rfl⟩ := owns_slice ho12; have O12 := Lib.hid ho12; have B12 := Lib.hid (B11.out.trans ((grown_upon hg12).belowB B11.out.size (fun k e => (O11.out.lt k e).1))); clear ho12 hg12 hb12))
          clear hWA hic hc0 hc1 hc2
          have K12 := Lib.hid (K10.out.on B12.out)
          have M12 := Lib.hid (M10.out.below B12.out)
          have R12 := Lib.hid (R10.out.below B12.out R10.out.lt)
          have N12 : Hid (rdAt (fun _ => False) w12 (.slice a12 (1 + m.length + m.length) c12) tw.length (ceL tw)) := Lib.hid (by
            have h := rdAt.of_owns (S := fun _ => False) O12.out (fun _ _ h => h)
            rw [TC.out] at h
            rw [TL.out]
            exact h)
          have TB := Lib.hid (show tw.length ≤ 140737488355328 by rw [TL.out]; omega)
          clear O11 O12 OA SA S11 RMA BA B11 B12 M10 R10 hsz hz11
          refine (keepMessage_is (B := true) M12.out N12.out TB.out ⟨fun _ => rfl, fun _ => rfl⟩).mono ?_
          rintro e w13 ⟨rfl, b13⟩
          have K13 := Lib.hid (K12.out.on b13)
          have M13 := Lib.hid (M12.out.below b13)
          have R13 := Lib.hid (R12.out.below b13 R12.out.lt)
          clear b13 M12 N12 R12
          have a0 : w13.cell? ⟨b1, 0, none⟩ = some (.pointer (some ⟨p, 0, none⟩)) := (K13.out.two.cell 0).trans rfl
          obtain ⟨c0, c1, c2, c3⟩ := cells4 R13.out
          go_wp2_with fail
          clear a0 c0 c1 c2 c3
          obtain ⟨t15, ht15⟩ : ∃ t15 : Int, t9 + ((3 + q + q : Nat) : Int) = t15 := ⟨_, rfl⟩
          have T15 := Lib.hid ht15
          clear ht15
          have t9a : 3 ≤ t9 := by rw [← T9.out]; omega
          have t9b : t9 ≤ 93 := by rw [← T9.out]; omega
          have TW : Hid ((t15 != IntKind.i64.wrap (IntKind.i64.wrap (t9 + IntKind.i64.wrap (2 * (q : Int))) + 3)) = false) := Lib.hid (by
            have e1 : IntKind.i64.wrap (2 * (q : Int)) = 2 * (q : Int) := by rw [IntKind.wrap_i64]; omega
            have e2 : IntKind.i64.wrap (t9 + 2 * (q : Int)) = t9 + 2 * (q : Int) := by rw [IntKind.wrap_i64]; omega
            have e3 : IntKind.i64.wrap (t9 + 2 * (q : Int) + 3) = t9 + 2 * (q : Int) + 3 := by rw [IntKind.wrap_i64]; omega
            rw [e1, e2, e3]
            have e4 : t15 = t9 + 2 * (q : Int) + 3 := by rw [← T15.out]; omega
            simp [e4])
          refine (in_any (m := tw) K13.out.held 3 300 0 t9 M13.out CAP.out).mono ?_
          rintro e w14 hin
          obtain ⟨hs14, A3, X3, y, rfl, hh14, ho14, hl14, _, hy14⟩ := in_yes (tp := t15) K13.out.held.ok O2.out TG.out (by rw [TQ.out]; omega) (by rw [TQ.out]; exact T15.out) hin
          have K14 := Lib.hid (K13.out.step hs14 hh14)
          have O3 := Lib.hid ho14
          have L3 := Lib.hid hl14
          have Y3 := Lib.hid hy14
          have M14 := Lib.hid (M13.out.upon hs14.upon (fun k _ h => h))
          have R14 := Lib.hid (R13.out.upon hs14.upon F9.out)
          clear hin hs14 hh14 ho14 hl14 hy14 M13 R13
          obtain ⟨W15, hW15⟩ : ∃ W15, w14.alloc (.cells #[.int .i64 3, .int .i64 300, .int .i64 0, .int .i64 t15] 24) = W15 := ⟨_, rfl⟩
          obtain ⟨h15, hh15⟩ : ∃ h15, w14.heap.size = h15 := ⟨_, rfl⟩
          have FZ := Lib.hid (show ¬ F h15 from fun hf => by have := K14.out.held.lt _ hf; omega)
          have bl : Below w14.heap.size w14 W15 := by rw [← hW15]; exact bl_alloc (Below.refl _ _) _
          have K15 := Lib.hid (K14.out.on bl)
          have M15 := Lib.hid (M14.out.below bl)
          have R15 := Lib.hid (R14.out.below bl R14.out.lt)
          have Z15 := Lib.hid (show rowAt W15 h15 24 [.int .i64 3, .int .i64 300, .int .i64 0, .int .i64 t15] by rw [← hW15, ← hh15]; exact rowAt.made _ _ _)
          clear bl M14 R14
          have a0 : W15.cell? ⟨b1, 0, none⟩ = some (.pointer (some ⟨p, 0, none⟩)) := (K15.out.two.cell 0).trans rfl
          obtain ⟨c0, c1, c2, c3⟩ := cells4 Z15.out
          go_wp2_with fail
          clear a0 c0 c1 c2 c3 hW15 hh15
          have HR15 : Hid ((match A3.objs 3 300 0 t15 with | some obs => outP (0 * 300) obs 100 [y] | none => none) = some tw) := Lib.hid (by
            rw [O3.out]
            show outP (0 * 300) ((X ++ [shOb x]) ++ X3) 100 [y] = some tw
            rw [outP_iff]
            exact ⟨L3.out, by rw [TL.out]; omega⟩)
          refine (out_any K15.out.held 3 300 0 t15 y Y3.out).mono ?_
          rintro e w16 hout
          obtain ⟨b16, ra, rc, rfl, hom⟩ := out_yes HR15.out hout
          have K16 := Lib.hid (K15.out.on b16)
          have M16 := Lib.hid (M15.out.below b16)
          have R16 := Lib.hid (R15.out.below b16 R15.out.lt)
          have Z16 := Lib.hid (Z15.out.below b16 Z15.out.lt)
          have N16 : Hid (rdAt (fun _ => False) w16 (.slice ra tw.length rc) tw.length (ceL tw)) := Lib.hid (rdAt.of_owns hom (fun _ _ h => h))
          clear hout b16 hom M15 R15 Z15
          go_upto_region 14 with fail
          go_cut [141] (fun v141 wx => v141 = .bool false ∧ Wd w p p2 b1 F A3 wx ∧ rowAt wx h15 24 [.int .i64 3, .int .i64 300, .int .i64 0, .int .i64 t15])
          case first =>
            have KD := Lib.hid (K16.out.on (bl_drew (Below.refl _ _)))
            have NF := Lib.hid (fun (V : World) (hb : Below w16.heap.size w16 V) => show V.cell? ⟨h15, 3, none⟩ = some (.int .i64 t15) ∧ V.cell? ⟨h9, 3, none⟩ = some (.int .i64 t9) from ⟨((Z16.out.below hb Z16.out.lt).cell 3).trans rfl, ((R16.out.below hb R16.out.lt).cell 3).trans rfl⟩)
            have GM := G1
            have G0 := Lib.hid (show (fun w' => w'.cell? ⟨h15, 3, none⟩ = some (.int .i64 t15) ∧ w'.cell? ⟨h9, 3, none⟩ = some (.int .i64 t9)) w16 from NF.out _ (Below.refl _ _))
            have GD := Lib.hid (show (fun w' => w'.cell? ⟨h15, 3, none⟩ = some (.int .i64 t15) ∧ w'.cell? ⟨h9, 3, none⟩ = some (.int .i64 t9)) w16.drew from NF.out _ (bl_drew (Below.refl _ _)))
            have MD := Lib.hid (M16.out.below (bl_drew (Below.refl w16.heap.size w16)))
            have ND := Lib.hid (N16.out.below (bl_drew (Below.refl w16.heap.size w16)))
            have BD := Lib.hid (bl_drew (Below.refl w16.heap.size w16))
            have ZD := Lib.hid (Z16.out.below BD.out Z16.out.lt)
            go_wp2_with fail
            go_region_held3 (fun w' => w'.cell? ⟨h15, 3, none⟩ = some (.int .i64 t15) ∧ w'.cell? ⟨h9, 3, none⟩ = some (.int .i64 t9))
              (first | with_reducible exact G0.out | with_reducible exact GD.out | with_reducible exact Y17.out | with_reducible exact Y18.out)
              (first
              | (go_at_call 18
                 with_reducible refine (keepMessage_is (w := w16.drew) (B := true) ND.out MD.out TB.out ⟨fun _ => rfl, fun _ => rfl⟩).mono ?_
                 rintro e w17 ⟨rfl, b17⟩
                 have K17 := Lib.hid (KD.out.on b17)
                 have Z17 := Lib.hid (ZD.out.below b17 ZD.out.lt)
                 have B17 := Lib.hid (bl_call BD.out b17)
                 have RM17 := Lib.hid (HA.out.below K17.out.below)
                 have Y17 := Lib.hid (show (fun w' => w'.cell? ⟨h15, 3, none⟩ = some (.int .i64 t15) ∧ w'.cell? ⟨h9, 3, none⟩ = some (.int .i64 t9)) w17 from NF.out _ B17.out)
                 clear b17)
              | (go_at_call 15
                 with_reducible refine (rwords_is (w := w17) Q.out GM.out RM17.out).mono ?_
                 rintro e w18 ⟨rfl, b18⟩
                 have K18 := Lib.hid (K17.out.on b18)
                 have Z18 := Lib.hid (Z17.out.below b18 Z17.out.lt)
                 have B18 := Lib.hid (bl_call B17.out b18)
                 have Y18 := Lib.hid (show (fun w' => w'.cell? ⟨h15, 3, none⟩ = some (.int .i64 t15) ∧ w'.cell? ⟨h9, 3, none⟩ = some (.int .i64 t9)) w18 from NF.out _ B18.out)
                 clear b18))
            all_goals
              go_wp2_with fail
              go_meet
              exact ⟨by rw [TW.out], K18.out, Z18.out⟩
          case rest =>
            obtain ⟨rfl, hk, hz⟩ := hcut
            have K18 := Lib.hid hk
            have Z18 := Lib.hid hz
            clear hk hz K16 M16 R16 Z16 N16
            have a0 : wc.cell? ⟨b1, 0, none⟩ = some (.pointer (some ⟨p, 0, none⟩)) := (K18.out.two.cell 0).trans rfl
            obtain ⟨c0, c1, c2, c3⟩ := cells4 Z18.out
            go_wp2_with fail
            clear a0 c0 c1 c2 c3
            refine (set_any' K18.out.held 3 300 0 t15 pl 1 pl PF.out PF.out (by decide) (by decide)).mono ?_
            rintro e w19 hset
            obtain ⟨hs19, rfl, A4, obs4, hh19, ho19, hn19⟩ := set_share K18.out.held.ok O3.out N1.out (by omega) PL.out hset
            have K19 := Lib.hid (K18.out.step hs19 hh19)
            have Z19 := Lib.hid (Z18.out.upon hs19.upon FZ.out)
            have HR19 : Hid ((match A4.objs 3 300 0 t15 with | some obs => outP (0 * 300) obs 100 [pl] | none => none) = none) := Lib.hid (by rw [ho19]; exact hn19)
            clear hset hs19 hh19 ho19 hn19
            have a0 : w19.cell? ⟨b1, 0, none⟩ = some (.pointer (some ⟨p, 0, none⟩)) := (K19.out.two.cell 0).trans rfl
            obtain ⟨c0, c1, c2, c3⟩ := cells4 Z19.out
            go_wp2_with fail
            clear a0 c0 c1 c2 c3
            refine (out_any K19.out.held 3 300 0 t15 pl PF.out).mono ?_
            rintro e w20 hout
            obtain ⟨b20, rfl⟩ := out_no HR19.out hout
            have B20 := Lib.hid (K19.out.on b20).below
            clear hout b20
            go_wp2_with fail
            refine (dwakes_any _ (HT.out.below B20.out)).mono ?_
            rintro e wz ⟨rfl, hb⟩
            have BZ := Lib.hid (bl_call B20.out hb)
            clear hb
            go_wp2_with fail
            go_ret
            exact ⟨rfl, BZ.out⟩
  · skip
    go_wp2_with fail
    refine (dwakes_any _ (HT.out.below B1.out)).mono ?_
    rintro e wz ⟨rfl, hb⟩
    have BZ := Lib.hid (bl_call B1.out hb)
    clear hb
    go_wp2_with fail
    go_ret
    exact ⟨rfl, BZ.out⟩

theorem contract (H : Type) (enc : TypeId × Value → H) (W : World) (base : Nat) (args : Array Value) (ds gs : List (DataW H)) (before : List MemPlace)
    (hval0 : ∀ (j : Nat) t v, Tryz.f5.params[j]? = some t → args[j]? = some v → Value.okWide Tryz.prog W .any base t v)
    (hW : DataW.Whole enc Tryz.prog Tryz.f5.params.toList Rows.dataSharesSpec.vars false W args.toList ds gs before)
    (T : OpTab W)
    (hz : (DataW.weightsEach Tryz.prog (Tryz.f5.params.toList ++ Rows.dataSharesSpec.plain.varTypes Tryz.prog) (ds ++ gs)).all (· ≤ reachBytes) = true) :
    Calls Tryz.prog 5 args W fun e W' => ∃ v, e = .returned v ∧ Rows.dataSharesSpec.post enc Tryz.prog Tryz.f5 false true false false W args v W' := by
  have hW' := hW
  have hval := hval0
  obtain ⟨p, q, hA0, hV, rfl, hfz, hnd⟩ := hW
  have hA : DataW.TrodAll enc Tryz.prog W 0 (fun _ => true) true Tryz.f5.params.toList args.toList ds p := hA0
  rw [Tryz.params5] at hA hval
  obtain ⟨rfl, rfl⟩ := trodVars_none hV
  have wb : ∀ (j : Nat) (t : TypeId) (d : DataW H), Tryz.f5.params[j]? = some t → ds[j]? = some d → WB Tryz.prog t d := fun j t d ht hd => wb_of hz (by simpa using ht) hd
  rw [Tryz.params5] at wb
  obtain ⟨v0, vs0, d0, ds0, p0, q0, hargs, rfl, rfl, h0, r0⟩ := trodAll_cons hA
  obtain ⟨rfl, rfl, rfl⟩ := trodAll_nil r0
  obtain rfl : args = #[v0] := by cases args; simp_all
  obtain ⟨sa0, sc0, m0, rfl, hc0, hr0, hl0⟩ := open_msg (wb 0 _ _ rfl rfl) (hval 0 41 v0 rfl rfl) h0
  refine (walk sa0 sc0 m0 W hc0 hr0 hl0 T).mono fun e W' ⟨he, hb⟩ => ?_
  subst he
  exact ⟨_, rfl, law_post laidOut (by kernel_rfl) rfl (by kernel_rfl) Tryz.underlying4 hW' rfl rfl rfl hb⟩

theorem door_met (os : Os) (args : Array Value) : laidMetH Tryz.prog Rows.dataSharesRow.laid ((World.doorLaid Tryz.prog 200 os).forCall (fun _ _ => 0) ⟨#[], args, []⟩).memory :=
  laidMetH_of_parts3 (fuel := 8) (laidMet_of_run' 8 (by kernel_rfl) (by kernel_rfl)) (by kernel_rfl) (by kernel_rfl)

set_option maxRecDepth 100000 in
theorem lifted (os : Os) (started : os.Started) (H : Type) (enc : TypeId × Value → H) :
    ReturnsInHanded {} Tryz.checked os 5 .any (fun w args => (Rows.dataSharesSpec.pre enc Tryz.prog Tryz.f5 [] false w args ∧ laidMetH Tryz.prog Rows.dataSharesRow.laid w) ∧ sizedMet enc Tryz.prog Tryz.f5 (OpenSpec.ofChange Rows.dataSharesSpec) false w args)
      (Rows.dataSharesSpec.post enc Tryz.prog Tryz.f5 false true false false) := by
  refine returnsInHanded_of_change_and (C := Tryz.checked) (X := fun w _ => laidMetH Tryz.prog Rows.dataSharesRow.laid w) (fun _ _ _ hh h => h.of_heap hh) own started (by kernel_rfl) Tryz.func5
    (ChangeSpec.witness_shaped (enc := enc) (C := Tryz.checked) (os := os) (X := fun w _ => laidMetH Tryz.prog Rows.dataSharesRow.laid w) false (World.doorLaid Tryz.prog 200 os) #[.slice none 0 0] 8 rfl (World.shaped_of_RefB (by kernel_rfl) (by kernel_rfl)) (by kernel_rfl) (by kernel_rfl) (by kernel_rfl) (door_met os _)) ?_
  intro W base args ds gs before hval hW _ hz hL _
  exact contract H enc W base args ds gs before hval hW (optab_of (laid_lies (by kernel_rfl) hL _ _ (List.Mem.head _)) (laid_lies (by kernel_rfl) hL _ _ (List.Mem.tail _ (List.Mem.head _))) (laid_lies (by kernel_rfl) hL _ _ (List.Mem.tail _ (List.Mem.tail _ (List.Mem.head _))))) hz

theorem over : Rows.dataSharesRow.holds Tryz.pinned (OpenSpec.ofChange Rows.dataSharesSpec) :=
  OpenClaim.holds_of_wide 5 Tryz.f5 rfl rfl rfl rfl rfl rfl rfl ⟨rfl, rfl, rfl, rfl, rfl⟩ rfl rfl rfl rfl rfl (by kernel_rfl) Tryz.func5 (by kernel_rfl)
    (of_decide_eq_true (by kernel_rfl)) (by unfold Func.isWrapper; first | (rw [if_pos (by decide +kernel)]; kernel_rfl) | (rw [if_neg (by decide +kernel)]; exact ⟨rfl, rfl⟩))
    (fun os started H enc _ => lifted os started H enc)

theorem proved : Rows.DataSharesCardSaid :=
  Claim7.holds_tied_plain_at .later [] [.data, .data, .data] true _ false
    over (fun _ h => by cases h) (by kernel_rfl) (fun _ h => by cases h) dataShares_row_tie rfl ⟨rfl, rfl⟩ (by kernel_rfl) rfl
    (fun f fn hf hfn => by
      obtain rfl : f = 5 := Option.some.inj ((show Tryz.prog.funcNamed "stockpot/stockpotlaw10.DataShares" = some 5 by kernel_rfl).symm.trans hf) |>.symm
      obtain rfl : fn = Tryz.f5 := (Option.some.inj (Tryz.func5.symm.trans hfn)).symm
      exact ⟨by kernel_rfl, fun j t ht => by
        have hall : (Tryz.f5.params.toList.all fun u => !Tryz.prog.wantsStandIn u) = true := by kernel_rfl
        exact (show Tryz.prog.wantsStandIn t = false by simpa using List.all_eq_true.1 hall t (by simpa using Array.mem_of_getElem? ht))⟩)
    (by kernel_rfl)
#print axioms proved
end Go.Proofs.YtffnafnkkbmnpaaGreatDoor.dataShares
