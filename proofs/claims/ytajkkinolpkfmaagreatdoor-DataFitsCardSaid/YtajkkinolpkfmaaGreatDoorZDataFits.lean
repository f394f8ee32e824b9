/-
  Layer 10's wakes: its message, the state of its memory.
  Conditions: as each states.
-/
import Derived.Test.YtajkkinolpkfmaaGreatDoorZDv
import Derived.Test.YtajkkinolpkfmaaGreatDoorZDfp
import Derived.Test.YtajkkinolpkfmaaGreatDoorLay
import Derived.Deep.DeepCutAuto
import Derived.Deep.CutBlock
import Derived.Test.YtajkkinolpkfmaaGreatDoorZCoRg
import Derived.Test.YtajkkinolpkfmaaGreatDoorZArgsF
import Derived.Test.YtajkkinolpkfmaaGreatDoorTie
import Derived.Test.YtajkkinolpkfmaaGreatDoorCards
import Derived.SevenTiedAt
import Derived.LaidMore
import Derived.Stop.Joined
import Derived.Deep.RegionHeld3
namespace Go.Proofs.YtajkkinolpkfmaaGreatDoor
set_option linter.unusedVariables false
set_option linter.unusedSimpArgs false
open Go.ChangeShapes Go.WideShapes Go.ChangeAt Go.RowKit
set_option maxRecDepth 100000

theorem dIn_any {w : World} {p : Nat} {F : Nat → Prop} {A : Ar} (hA : Held w p F A) (base half space top : Int) {a : Option Addr} {cap : Nat} {m : List PCe} (hr : rdAt F w (.slice a m.length cap) m.length (ceL m)) (hcap : m.length ≤ cap) :
    Calls Tryz.prog 25 #[.pointer (some ⟨p, 0, none⟩), heapV base half space top, .slice a m.length cap] w (InT A base half space top m p F w) := by
  cases ho : A.objs base half space top with
  | none => exact in_heap hA base half space top hr ho
  | some obs =>
    cases hg : goodMs m with
    | false => exact in_msg hA base half space top hr (by rw [ho]; rfl) hg
    | true =>
      by_cases hw : (wordsM m : Int) ≤ half - top
      · exact in_good hA base half space top hr hcap ho hg hw
      · obtain ⟨h1, h2, h3, h4, h5⟩ := objs_top hA.ok ho
        exact in_room hA base half space top hr (by rw [ho]; rfl) hg (by omega) (by rw [IntKind.wrap_i64]; omega)
def abText : ByteArray := ⟨#[97, 98]⟩
def oneM : List PCe := [blkCe 1 2, numCe 1, blkCe 1 2, strCe abText, numCe 0]
def twoM : List PCe := [blkCe 1 2, numCe 1, numCe 0]
def wakF : List PFm := [(6, 1, 0, []), (1, 0, 0, [])]
theorem one_good : goodMs oneM = true := by decide +kernel
theorem one_words : wordsM oneM = 8 := by decide +kernel
theorem one_tail : goodMs oneM.tail = false := by decide +kernel
theorem two_good : goodMs twoM = true := by decide +kernel
theorem wak_forms : rfmsG wakF = true := by decide +kernel
theorem wak_yes : fitL wakF [0] twoM = true := by decide +kernel
theorem wak_no : fitL wakF [0] oneM = false := by decide +kernel
def dA0 : Ar := Ar.laid (List.replicate 20 0)
theorem dA0_objs : dA0.objs 3 10 0 0 = some [] := by kernel_rfl
theorem one_any (w : World) : Calls Tryz.prog 26 #[] w fun e w' => e = .returned (.slice (some ⟨w.heap.size, 0, none⟩) 5 5) ∧ rowAt w' w.heap.size 33 (ceL oneM) ∧ Below w.heap.size w w' := by
  go_enter Tryz.func26, Tryz.ntmps26
  go_wp2_with fail
  go_ret
  exact ⟨rfl, rowAt.made _ _ _, bl_alloc (Below.refl _ _) _⟩
theorem row_rd {F : Nat → Prop} {w : World} {g n c : Nat} {T : TypeId} {cs : List Value} (h : rowAt w g T cs) (hF : ¬ F g) : rdAt F w (.slice (some ⟨g, 0, none⟩) n c) n cs :=
  ⟨_, _, rfl, .inr ⟨g, 0, rfl, hF, h.lt, fun j u hj => by rw [h.cell, Nat.zero_add]; exact hj⟩⟩
structure Wd (w : World) (p p2 b1 : Nat) (F : Nat → Prop) (A : Ar) (W : World) : Prop where
  held : Held W p F A
  two : rowAt W b1 55 [.pointer (some ⟨p, 0, none⟩), .pointer (some ⟨p2, 0, none⟩)]
  nb : ¬ F b1
  lo : w.heap.size ≤ b1
  fl : ∀ k, F k → w.heap.size ≤ k
  below : Below w.heap.size w W
section
variable {w : World} {p p2 b1 : Nat} {F : Nat → Prop} {A A' : Ar} {W W' : World}
theorem Wd.on (h : Wd w p p2 b1 F A W) (hb : Below W.heap.size W W') : Wd w p p2 b1 F A W' := ⟨h.held.below hb, h.two.below hb h.two.lt, h.nb, h.lo, h.fl, bl_call h.below hb⟩
theorem Wd.step (h : Wd w p p2 b1 F A W) (hs : Step F F W W') (hh : Held W' p F A') : Wd w p p2 b1 F A' W' :=
  ⟨hh, h.two.upon hs.upon h.nb, h.nb, h.lo, h.fl, h.below.trans (hs.upon.belowB h.below.size h.fl)⟩
end
/-- What the first In of wakes comes to. -/
theorem wak_in {A : Ar} {w : World} {p : Nat} {F : Nat → Prop} {e : Ending} {w' : World} (hA : A.objs 3 10 0 0 = some []) (h : InT A 3 10 0 0 oneM p F w e w') :
    Step F F w w' ∧ ∃ A1 X, e = .returned (.tuple #[heapV 3 10 0 8, .int .u64 0, .bool true]) ∧ Held w' p F A1 ∧ A1.objs 3 10 0 8 = some X ∧ outP 0 X 100 [0] = some oneM := by
  obtain ⟨hs, h⟩ := h
  refine ⟨hs, ?_⟩
  rcases h with ⟨obs, A', X, w0, h1, h2, h3, h4, h5, h6, h7, h8, c, r, h9, h10⟩ | ⟨h1, _⟩
  · rw [hA] at h1
    cases h1
    have e1 : w0 = 0 := by
      rw [h10]
      have : c = blkCe 1 2 := by unfold oneM at h9; exact (List.cons.inj h9).1.symm
      rw [this]
      rfl
    subst e1
    rw [one_words] at h4 h6
    refine ⟨A', X, by rw [h4]; rfl, h5, by simpa using h6, ?_⟩
    rw [outP_iff]
    exact ⟨by simpa using h7, by decide⟩
  · rw [hA, one_good, one_words] at h1
    cases h1
theorem wak_in2 {A : Ar} {X : List Ob} {w : World} {p : Nat} {F : Nat → Prop} {e : Ending} {w' : World} (hA : A.objs 3 10 0 8 = some X) (h : InT A 3 10 0 8 oneM p F w e w') :
    Step F F w w' ∧ e = .returned (.tuple #[heapV 0 0 0 0, .int .u64 0, .bool false]) ∧ Held w' p F A := by
  obtain ⟨hs, h⟩ := h
  refine ⟨hs, ?_⟩
  rcases h with ⟨obs, A', X, w0, h1, h2, h3, h4⟩ | ⟨h1, h2, h3⟩
  · rw [one_words] at h3
    omega
  · exact ⟨h2, h3⟩
/-- Behind the first In. -/
def CutW (w : World) (p p2 b1 : Nat) (F : Nat → Prop) (v4 v5 v6 : Value) (wx : World) : Prop :=
  ∃ hb A1 X, v4 = .pointer (some ⟨hb, 0, none⟩) ∧ v5 = .int .u64 0 ∧ v6 = .bool true ∧ Wd w p p2 b1 F A1 wx ∧ rowAt wx hb 39 [.int .i64 3, .int .i64 10, .int .i64 0, .int .i64 8] ∧ ¬ F hb ∧ A1.objs 3 10 0 8 = some X ∧ outP 0 X 100 [0] = some oneM
/-- Behind the second one. -/
def CutX (V w : World) (p p2 b1 : Nat) (F : Nat → Prop) (hb : Nat) (A1 : Ar) (v9 v10 v11 : Value) (wx : World) : Prop :=
  Upon F V wx ∧ ∃ gb, v9 = .pointer (some ⟨gb, 0, none⟩) ∧ v10 = .int .u64 0 ∧ v11 = .bool false ∧ Wd w p p2 b1 F A1 wx ∧ rowAt wx hb 39 [.int .i64 3, .int .i64 10, .int .i64 0, .int .i64 8] ∧ rowAt wx gb 39 [.int .i64 0, .int .i64 0, .int .i64 0, .int .i64 0]
theorem Wd.set {w : World} {p p2 b1 zb : Nat} {F : Nat → Prop} {A : Ar} {W : World} (h : Wd w p p2 b1 F A W) (hF : ¬ F zb) (hb : b1 ≠ zb) (hl : w.heap.size ≤ zb) {a c d e : Value} :
    Wd w p p2 b1 F A ((((W.setCell ⟨zb, 0, none⟩ a).setCell ⟨zb, 1, none⟩ c).setCell ⟨zb, 2, none⟩ d).setCell ⟨zb, 3, none⟩ e) := by
  have hu : Upon (fun k => k = zb) W _ := upon_set4 (S := fun k => k = zb) (w := W) (b := zb) rfl (a := a) (c := c) (d := d) (e := e)
  exact ⟨h.held.upon hu (fun k hk e => hF (e ▸ hk)), h.two.upon hu hb, h.nb, h.lo, h.fl, h.below.trans (hu.belowB h.below.size fun k e => by omega)⟩
theorem row_set4 {W : World} {zb : Nat} {T : TypeId} {a0 c0 d0 e0 a c d e : Value} (h : rowAt W zb T [a0, c0, d0, e0]) : rowAt ((((W.setCell ⟨zb, 0, none⟩ a).setCell ⟨zb, 1, none⟩ c).setCell ⟨zb, 2, none⟩ d).setCell ⟨zb, 3, none⟩ e) zb T [a, c, d, e] :=
  (((h.set 0 a).set 1 c).set 2 d).set 3 e
theorem cutW_last {w : World} {p p2 b1 : Nat} {F : Nat → Prop} {A1 : Ar} {X : List Ob} {w4 : World} (K : Wd w p p2 b1 F A1 w4) (h1 : A1.objs 3 10 0 8 = some X) (h2 : outP 0 X 100 [0] = some oneM) :
    CutW w p p2 b1 F (.pointer (some ⟨w4.heap.size, 0, none⟩)) (.int .u64 0) (.bool true) (w4.alloc (.cells #[.int .i64 3, .int .i64 10, .int .i64 0, .int .i64 8] 39)) :=
  ⟨_, A1, X, rfl, rfl, rfl, K.on (bl_alloc (Below.refl _ _) _), rowAt.made _ _ _, fun hf => by have := K.held.lt _ hf; omega, h1, h2⟩
theorem cutW_set {w : World} {p p2 b1 zb : Nat} {F : Nat → Prop} {A1 : Ar} {X : List Ob} {w4 : World} (K : Wd w p p2 b1 F A1 w4) (h1 : A1.objs 3 10 0 8 = some X) (h2 : outP 0 X 100 [0] = some oneM) {a c d e : Value} (hz : rowAt w4 zb 39 [a, c, d, e]) (hF : ¬ F zb) (hb : b1 ≠ zb) (hl : w.heap.size ≤ zb) :
    CutW w p p2 b1 F (.pointer (some ⟨zb, 0, none⟩)) (.int .u64 0) (.bool true) ((((w4.setCell ⟨zb, 0, none⟩ (.int .i64 3)).setCell ⟨zb, 1, none⟩ (.int .i64 10)).setCell ⟨zb, 2, none⟩ (.int .i64 0)).setCell ⟨zb, 3, none⟩ (.int .i64 8)) :=
  ⟨_, A1, X, rfl, rfl, rfl, K.set hF hb hl, row_set4 hz, hF, h1, h2⟩
theorem cutX_last {V w : World} {p p2 b1 hb : Nat} {F : Nat → Prop} {A1 : Ar} {w4 : World} (K : Wd w p p2 b1 F A1 w4) (hh : rowAt w4 hb 39 [.int .i64 3, .int .i64 10, .int .i64 0, .int .i64 8]) (hU : Upon F V w4) :
    CutX V w p p2 b1 F hb A1 (.pointer (some ⟨w4.heap.size, 0, none⟩)) (.int .u64 0) (.bool false) (w4.alloc (.cells #[.int .i64 0, .int .i64 0, .int .i64 0, .int .i64 0] 39)) :=
  ⟨hU.trans (Upon.alloc F _ _) (fun _ _ h => h), _, rfl, rfl, rfl, K.on (bl_alloc (Below.refl _ _) _), hh.alloc _, rowAt.made _ _ _⟩
theorem cutX_set {V w : World} {p p2 b1 hb zb : Nat} {F : Nat → Prop} {A1 : Ar} {w4 : World} (K : Wd w p p2 b1 F A1 w4) (hh : rowAt w4 hb 39 [.int .i64 3, .int .i64 10, .int .i64 0, .int .i64 8]) {a c d e : Value} (hz : rowAt w4 zb 39 [a, c, d, e]) (hF : ¬ F zb) (hb1 : b1 ≠ zb) (hb2 : hb ≠ zb) (hl : w.heap.size ≤ zb) (hU : Upon F V w4) (hV : V.heap.size ≤ zb) :
    CutX V w p p2 b1 F hb A1 (.pointer (some ⟨zb, 0, none⟩)) (.int .u64 0) (.bool false) ((((w4.setCell ⟨zb, 0, none⟩ (.int .i64 0)).setCell ⟨zb, 1, none⟩ (.int .i64 0)).setCell ⟨zb, 2, none⟩ (.int .i64 0)).setCell ⟨zb, 3, none⟩ (.int .i64 0)) :=
  ⟨hU.trans (T := fun k => k = zb) (upon_set4 (S := fun k => k = zb) rfl) (fun i hi e => by omega), _, rfl, rfl, rfl, K.set hF hb1 hl, hh.upon (S := fun k => k = zb) (upon_set4 (S := fun k => k = zb) rfl) hb2, row_set4 hz⟩
theorem wak_out {A1 : Ar} {X : List Ob} {w w' : World} {e : Ending} (h1 : A1.objs 3 10 0 8 = some X) (h2 : outP 0 X 100 [0] = some oneM)
    (h : OutT (match A1.objs 3 10 0 8 with | some obs => outP (0 * 10) obs 100 [0] | none => none) w e w') : Below w.heap.size w w' ∧ ∃ oa oc, e = .returned (.tuple #[.slice oa 5 oc, .bool true]) ∧ w'.ownsRow w.heap.size 33 4 (.slice oa 5 oc) 5 (ceL oneM) := by
  obtain ⟨hb, h⟩ := h
  refine ⟨hb, ?_⟩
  have e1 : (match A1.objs 3 10 0 8 with | some obs => outP (0 * 10) obs 100 [0] | none => none) = some oneM := by rw [h1]; exact h2
  rcases h with ⟨m, v, h3, h4, h5⟩ | ⟨h3, _⟩
  · rw [e1] at h3
    cases h3
    obtain ⟨oa, oc, rfl⟩ := owns_slice h5
    exact ⟨oa, oc, h4, h5⟩
  · rw [e1] at h3; cases h3
theorem wakF_at {w : World} {fb cap : Nat} (h : rowAt w fb 30 [.int .i64 6, .int .i64 1, .int .i64 0, .slice none 0 0, .int .i64 1, .int .i64 0, .int .i64 0, .slice none 0 0]) : fmsAt (fun _ => False) w (.slice (some ⟨fb, 0, none⟩) 2 cap) wakF := by
  refine ⟨_, _, rfl, .inr ⟨fb, 0, rfl, fun h => h, h.lt, fun k x hx => ?_⟩⟩
  match k with
  | 0 =>
    have e : x = (6, 1, 0, []) := by simpa [wakF] using hx.symm
    subst e
    exact ⟨h.cell 0, h.cell 1, h.cell 2, _, h.cell 3, ⟨_, _, rfl, .inl rfl⟩⟩
  | 1 =>
    have e : x = (1, 0, 0, []) := by simpa [wakF] using hx.symm
    subst e
    exact ⟨h.cell 4, h.cell 5, h.cell 6, _, h.cell 7, ⟨_, _, rfl, .inl rfl⟩⟩
  | k + 2 => simp [wakF] at hx
theorem wakF_fm : ∀ m ∈ wakF, fmF m := by
  intro m hm
  simp only [wakF, List.mem_cons, List.not_mem_nil, or_false] at hm
  rcases hm with rfl | rfl
  · exact ⟨by decide, by decide, by decide, fun c hc => (by cases hc), by decide⟩
  · exact ⟨by decide, by decide, by decide, fun c hc => (by cases hc), by decide⟩
/-- Fits over wakes' forms. -/
theorem wak_fits {S2 : Nat → Prop} {w : World} (T : OpTab w) {fb cap : Nat} (h : rowAt w fb 30 [.int .i64 6, .int .i64 1, .int .i64 0, .slice none 0 0, .int .i64 1, .int .i64 0, .int .i64 0, .slice none 0 0]) {vm : Value} {m : List PCe} (hm : rdAt S2 w vm m.length (ceL m)) (hg : goodMs m = true) {r : Bool} (hr : fitL wakF [0] m = r) :
    Calls Tryz.prog 9 #[.slice (some ⟨fb, 0, none⟩) 2 cap, .int .i64 0, vm] w fun e w' => e = .returned (.bool r) ∧ Below w.heap.size w w' := by
  have hfa := wakF_at (cap := cap) h
  have key := fits_go T hfa wakF_fm (by decide) 0 hm wak_forms (by decide) (by decide) hg (fun W hb j hj c hc => by
    have hW := fms_below hfa hb
    match j, hj with
    | 0, _ =>
      by_cases h0 : c = numCe 0
      · exact fit_6_nil hW (k := 0) rfl c h0
      · exact fit_6_two hW (k := 0) rfl c h0
    | 1, _ => exact fit_1 hW (k := 1) rfl c)
  rw [hr] at key
  exact key
theorem wak_fits2 {S2 : Nat → Prop} {w : World} (T : OpTab w) {fb cap : Nat} (h : rowAt w fb 30 [.int .i64 6, .int .i64 1, .int .i64 0, .slice none 0 0, .int .i64 1, .int .i64 0, .int .i64 0, .slice none 0 0]) {vm : Value} {m : List PCe} (hm : rdAt S2 w vm m.length (ceL m)) :
    Calls Tryz.prog 9 #[.slice (some ⟨fb, 0, none⟩) 2 cap, .int .i64 2, vm] w fun e w' => e = .returned (.bool false) ∧ Below w.heap.size w w' :=
  fits_no T (wakF_at (cap := cap) h) wakF_fm (by decide) 2 hm (by rw [show (decide ((0 : Int) ≤ 2 ∧ (2 : Int) < ((wakF.length : Nat) : Int))) = false by decide, Bool.false_and, Bool.and_false])
theorem make_twenty (w : World) : (Instr.makeSlice 40 (.int .i64 20) (.int .i64 20)).run Tryz.prog w = .ok (.slice (some ⟨w.heap.size, 0, none⟩) 20 20) (w.alloc (.cells ⟨wordsL (List.replicate 20 0)⟩ 43)) := make_words 20 (by omega) w
end Go.Proofs.YtajkkinolpkfmaaGreatDoor

/-
  Layer 10's wakes.
  Conditions: the tables of op read as the program's text lays them (OpTab).
-/
namespace Go.Proofs.YtajkkinolpkfmaaGreatDoor
set_option linter.unusedVariables false
set_option linter.unusedSimpArgs false
open Go.ChangeShapes Go.WideShapes Go.ChangeAt Go.RowKit
set_option maxRecDepth 100000

theorem rd_tailD {w : World} {g : Nat} (h : rowAt w g 33 (ceL oneM)) : rdAt (fun _ => False) w (.slice (some ⟨g, 4, none⟩) oneM.tail.length 4) oneM.tail.length (ceL oneM.tail) := by
  refine ⟨_, _, rfl, .inr ⟨g, 4, rfl, fun h => h, h.lt, fun j u hj => ?_⟩⟩
  rw [h.cell]
  have e4 : ceL oneM = ceC (blkCe 1 2) ++ ceL oneM.tail := by simp [ceL, oneM]
  rw [e4, List.getElem?_append_right (by simp [ceC]), show 4 + j - (ceC (blkCe 1 2)).length = j by simp [ceC]]
  exact hj
set_option maxHeartbeats 16000000 in
theorem dwakes_any (w : World) (T : OpTab w) :
    Calls Tryz.prog 8 #[] w fun e w' => e = .returned (.bool true) ∧ Below w.heap.size w w' := by
  have hmk := make_twenty
  have HT := Lib.hid T
  clear T
  go_enter Tryz.func8, Tryz.ntmps8
  go_wp2_with fail
  refine (lay_any _ _ (List.replicate 20 0) (readsAt.row (rest := []) (by rw [List.append_nil]; exact rowAt.made w _ _)) (fun x hx => by obtain rfl := List.eq_of_mem_replicate hx; exact ⟨by decide, by decide⟩) (by decide)).mono ?_
  rintro e w1 ⟨p, p2, F, G, rfl, h1, h2, h3, h4, h5, h6⟩
  clear h2 h3 h5
  have H1 := Lib.hid (show Held w1 p F dA0 from h1)
  have H4 := Lib.hid h4
  have H6 := Lib.hid (bl_call (bl_alloc (Below.refl w.heap.size w) (.cells ⟨wordsL (List.replicate 20 0)⟩ 43)) h6)
  have H4' := Lib.hid (fun k (hk : F k) => show w.heap.size ≤ k by have := h4 k hk; simp at this; omega)
  clear h1 h4 h6 hmk
  obtain ⟨W, hW⟩ : ∃ W, w1.alloc (.cells #[.pointer (some ⟨p, 0, none⟩), .pointer (some ⟨p2, 0, none⟩)] 55) = W := ⟨_, rfl⟩
  have K : Hid (Wd w p p2 w1.heap.size F dA0 W) := by
    have hb : Below w1.heap.size w1 W := by rw [← hW]; exact bl_alloc (Below.refl _ _) _
    exact ⟨H1.out.below hb, by rw [← hW]; exact rowAt.made _ _ _, fun hf => by have := H1.out.lt _ hf; omega, H6.out.size, H4'.out, bl_call H6.out hb⟩
  obtain ⟨b1, hb1⟩ : ∃ b1, w1.heap.size = b1 := ⟨_, rfl⟩
  rw [hb1] at K
  have a0 : W.cell? ⟨b1, 0, none⟩ = some (.pointer (some ⟨p, 0, none⟩)) := (K.out.two.cell 0).trans rfl
  have a1 : W.cell? ⟨b1, 1, none⟩ = some (.pointer (some ⟨p2, 0, none⟩)) := (K.out.two.cell 1).trans rfl
  have al := K.out.two.lt
  go_wp2_with fail
  clear hW
  go_upto_region 4 with fail
  go_cut [4, 5, 6] (fun v4 v5 v6 wx => CutW w p p2 b1 F v4 v5 v6 wx)
  case first =>
    have KD := Lib.hid (K.out.on (bl_drew (Below.refl _ _)))
    have KZ := Lib.hid (K.out.on (bl_alloc (Below.refl _ _) (.cells #[.int .i64 0, .int .i64 0, .int .i64 0, .int .i64 0] 39)))
    have KZD := Lib.hid (K.out.on (bl_drew (bl_alloc (Below.refl _ _) (.cells #[.int .i64 0, .int .i64 0, .int .i64 0, .int .i64 0] 39))))
    have G0 := Lib.hid (show (fun w' => w'.cell? ⟨b1, 0, none⟩ = some (.pointer (some ⟨p, 0, none⟩))) W from (K.out.two.cell 0).trans rfl)
    have G1 := Lib.hid (show (fun w' => w'.cell? ⟨b1, 0, none⟩ = some (.pointer (some ⟨p, 0, none⟩))) W.drew from (KD.out.two.cell 0).trans rfl)
    have G2 := Lib.hid (show (fun w' => w'.cell? ⟨b1, 0, none⟩ = some (.pointer (some ⟨p, 0, none⟩))) (W.alloc (.cells #[.int .i64 0, .int .i64 0, .int .i64 0, .int .i64 0] 39)) from (KZ.out.two.cell 0).trans rfl)
    have G3 := Lib.hid (show (fun w' => w'.cell? ⟨b1, 0, none⟩ = some (.pointer (some ⟨p, 0, none⟩))) (W.alloc (.cells #[.int .i64 0, .int .i64 0, .int .i64 0, .int .i64 0] 39)).drew from (KZD.out.two.cell 0).trans rfl)
    have IN5 := Lib.hid (fun (W' : World) (g : Nat) (hh : Held W' p F dA0) (hr : rowAt W' g 33 (ceL oneM)) (hg : ¬ F g) => show Calls Tryz.prog 25 #[.pointer (some ⟨p, 0, none⟩), .agg #[.int .i64 3, .int .i64 10, .int .i64 0, .int .i64 0], .slice (some ⟨g, 0, none⟩) 5 5] W' (InT dA0 3 10 0 0 oneM p F W') from dIn_any (m := oneM) (a := some ⟨g, 0, none⟩) (cap := 5) hh 3 10 0 0 (row_rd hr hg) (by decide))
    have LT := K.out.held.lt
    have NFL := Lib.hid LT
    clear LT
    have ZL := Lib.hid (show b1 < W.heap.size from K.out.two.lt)
    have ZB := Lib.hid (show w.heap.size ≤ W.heap.size from K.out.below.size)
    have nbW : b1 ≠ W.heap.size := by have := ZL.out; omega
    go_wp2_with fail
    go_region_held3 (fun w' => w'.cell? ⟨b1, 0, none⟩ = some (.pointer (some ⟨p, 0, none⟩)))
      (first | with_reducible exact G0.out | with_reducible exact G1.out | with_reducible exact G2.out | with_reducible exact G3.out | with_reducible exact Y3.out | with_reducible exact Y4.out | with_reducible exact Y5.out | with_reducible exact Y6.out | (simp [go_sem, y4, l4, nbW, nb3]; done))
      (first
      | (go_at_call 26
         with_reducible refine (one_any W.drew).mono ?_
         rintro e w3 ⟨rfl, hr3, b3⟩
         have K3 := Lib.hid (KD.out.on b3)
         have O3 := Lib.hid (show rowAt w3 W.heap.size 33 (ceL oneM) from hr3)
         have S3 : Hid (W.heap.size ≤ w3.heap.size) := Lib.hid (by have := b3.size; simp at this; omega)
         have nb3 : b1 ≠ w3.heap.size := by have := ZL.out; have := S3.out; omega
         have Y3 := Lib.hid (show (fun w' => w'.cell? ⟨b1, 0, none⟩ = some (.pointer (some ⟨p, 0, none⟩))) w3 from (K3.out.two.cell 0).trans rfl)
         have Y5 := Lib.hid (show (fun w' => w'.cell? ⟨b1, 0, none⟩ = some (.pointer (some ⟨p, 0, none⟩))) (w3.alloc (.cells #[.int .i64 0, .int .i64 0, .int .i64 0, .int .i64 0] 39)) from ((K3.out.on (bl_alloc (Below.refl _ _) (.cells #[.int .i64 0, .int .i64 0, .int .i64 0, .int .i64 0] 39))).two.cell 0).trans rfl)
         have Y6 := Lib.hid (show (fun w' => w'.cell? ⟨b1, 0, none⟩ = some (.pointer (some ⟨p, 0, none⟩))) (w3.alloc (.cells #[.int .i64 0, .int .i64 0, .int .i64 0, .int .i64 0] 39)).drew from ((K3.out.on (bl_drew (bl_alloc (Below.refl _ _) (.cells #[.int .i64 0, .int .i64 0, .int .i64 0, .int .i64 0] 39)))).two.cell 0).trans rfl)
         clear hr3 b3)
      | (go_at_call 26
         with_reducible refine (one_any (W.alloc (.cells #[.int .i64 0, .int .i64 0, .int .i64 0, .int .i64 0] 39)).drew).mono ?_
         rintro e w3 ⟨rfl, hr3, b3⟩
         have K3 := Lib.hid (KZD.out.on b3)
         have O3 := Lib.hid (show rowAt w3 (W.heap.size + 1) 33 (ceL oneM) by simpa using hr3)
         have S3 : Hid (W.heap.size ≤ w3.heap.size) := Lib.hid (by have := b3.size; simp at this; omega)
         have RZ3 := Lib.hid ((rowAt.made W 39 [.int .i64 0, .int .i64 0, .int .i64 0, .int .i64 0]).drew.below b3 (by simp))
         have nb3 : b1 ≠ w3.heap.size := by have := ZL.out; have := S3.out; omega
         have Y3 := Lib.hid (show (fun w' => w'.cell? ⟨b1, 0, none⟩ = some (.pointer (some ⟨p, 0, none⟩))) w3 from (K3.out.two.cell 0).trans rfl)
         have Y5 := Lib.hid (show (fun w' => w'.cell? ⟨b1, 0, none⟩ = some (.pointer (some ⟨p, 0, none⟩))) (w3.alloc (.cells #[.int .i64 0, .int .i64 0, .int .i64 0, .int .i64 0] 39)) from ((K3.out.on (bl_alloc (Below.refl _ _) (.cells #[.int .i64 0, .int .i64 0, .int .i64 0, .int .i64 0] 39))).two.cell 0).trans rfl)
         have Y6 := Lib.hid (show (fun w' => w'.cell? ⟨b1, 0, none⟩ = some (.pointer (some ⟨p, 0, none⟩))) (w3.alloc (.cells #[.int .i64 0, .int .i64 0, .int .i64 0, .int .i64 0] 39)).drew from ((K3.out.on (bl_drew (bl_alloc (Below.refl _ _) (.cells #[.int .i64 0, .int .i64 0, .int .i64 0, .int .i64 0] 39)))).two.cell 0).trans rfl)
         clear hr3 b3)
      | (go_at_call 25
         have RZ := RZ3.out
         with_reducible refine (IN5.out w3 _ K3.out.held O3.out (fun hf => by have := NFL.out _ hf; omega)).mono ?_
         rintro e w4 hin
         obtain ⟨hs4, A1, X, rfl, hh4, ho4, hp4⟩ := wak_in dA0_objs hin
         have K4 := Lib.hid (K3.out.step hs4 hh4)
         have RZ4 := Lib.hid (RZ.upon hs4.upon (fun hf => by have := NFL.out _ hf; have := S3.out; omega))
         obtain ⟨z0, z1, z2, z3⟩ := cells4 RZ4.out
         have f0 := RZ4.out.free 0
         have f1 := RZ4.out.free 1
         have f2 := RZ4.out.free 2
         have f3 := RZ4.out.free 3
         have lz := RZ4.out.lt
         have Y4 := Lib.hid (show (fun w' => w'.cell? ⟨b1, 0, none⟩ = some (.pointer (some ⟨p, 0, none⟩))) w4 from (K4.out.two.cell 0).trans rfl)
         have y4 := Y4.out
         have l4 := K4.out.two.lt
         have HO4 := Lib.hid ho4
         have HP4 := Lib.hid hp4
         clear hin hs4 hh4 ho4 hp4)
      | (go_at_call 25
         with_reducible refine (IN5.out w3 _ K3.out.held O3.out (fun hf => by have := NFL.out _ hf; omega)).mono ?_
         rintro e w4 hin
         obtain ⟨hs4, A1, X, rfl, hh4, ho4, hp4⟩ := wak_in dA0_objs hin
         have K4 := Lib.hid (K3.out.step hs4 hh4)
         have Y4 := Lib.hid (show (fun w' => w'.cell? ⟨b1, 0, none⟩ = some (.pointer (some ⟨p, 0, none⟩))) w4 from (K4.out.two.cell 0).trans rfl)
         have y4 := Y4.out
         have l4 := K4.out.two.lt
         have HO4 := Lib.hid ho4
         have HP4 := Lib.hid hp4
         clear hin hs4 hh4 ho4 hp4)
      | (go_at_call 25
         with_reducible refine (IN5.out (w3.alloc (.cells #[.int .i64 0, .int .i64 0, .int .i64 0, .int .i64 0] 39)) _ (K3.out.on (bl_alloc (Below.refl _ _) (.cells #[.int .i64 0, .int .i64 0, .int .i64 0, .int .i64 0] 39))).held (O3.out.alloc (.cells #[.int .i64 0, .int .i64 0, .int .i64 0, .int .i64 0] 39)) (fun hf => by have := NFL.out _ hf; omega)).mono ?_
         rintro e w4 hin
         obtain ⟨hs4, A1, X, rfl, hh4, ho4, hp4⟩ := wak_in dA0_objs hin
         have K4 := Lib.hid ((K3.out.on (bl_alloc (Below.refl _ _) (.cells #[.int .i64 0, .int .i64 0, .int .i64 0, .int .i64 0] 39))).step hs4 hh4)
         have RZ4 := Lib.hid ((rowAt.made w3 39 [.int .i64 0, .int .i64 0, .int .i64 0, .int .i64 0]).upon hs4.upon (fun hf => by have := NFL.out _ hf; have := S3.out; omega))
         obtain ⟨z0, z1, z2, z3⟩ := cells4 RZ4.out
         have f0 := RZ4.out.free 0
         have f1 := RZ4.out.free 1
         have f2 := RZ4.out.free 2
         have f3 := RZ4.out.free 3
         have lz := RZ4.out.lt
         have Y4 := Lib.hid (show (fun w' => w'.cell? ⟨b1, 0, none⟩ = some (.pointer (some ⟨p, 0, none⟩))) w4 from (K4.out.two.cell 0).trans rfl)
         have y4 := Y4.out
         have l4 := K4.out.two.lt
         have HO4 := Lib.hid ho4
         have HP4 := Lib.hid hp4
         clear hin hs4 hh4 ho4 hp4))
    all_goals
      go_wp2_with fail
      go_meet
      first
        | exact cutW_last K4.out HO4.out HP4.out
        | exact cutW_set K4.out HO4.out HP4.out RZ4.out (fun hf => by have := NFL.out _ hf; have := S3.out; omega) (by have := ZL.out; have := S3.out; omega) (by have := ZB.out; have := S3.out; omega)
  case rest =>
    obtain ⟨hb, A1, X, rfl, rfl, rfl, hk, hh, nfh, ho, hp⟩ := hcut
    have K1 := Lib.hid hk
    have HV0 := Lib.hid hh
    have HN := Lib.hid nfh
    have O1 := Lib.hid ho
    have HP := Lib.hid hp
    have e0 : wc.cell? ⟨b1, 0, none⟩ = some (.pointer (some ⟨p, 0, none⟩)) := (K1.out.two.cell 0).trans rfl
    obtain ⟨h0, h1, h2, h3⟩ := cells4 HV0.out
    clear hk hh nfh ho hp K a0 a1 al
    go_wp2_with fail
    refine (out_any K1.out.held 3 10 0 8 0 ⟨by decide, by decide⟩).mono ?_
    rintro e V hout
    obtain ⟨bV, oa, oc, rfl, hom⟩ := wak_out O1.out HP.out hout
    have KV := Lib.hid (K1.out.on bV)
    have HV := Lib.hid (HV0.out.below bV HV0.out.lt)
    have RM : Hid (rdAt (fun k => F k ∨ V.heap.size ≤ k) V (.slice oa 5 oc) 5 (ceL oneM)) := Lib.hid (rdAt.of_owns hom (fun g hg hk => by
      have h1 := (hom.lt g hg)
      rcases hk with hk | hk
      · have := K1.out.held.lt _ hk; omega
      · omega))
    clear hout bV hom e0 h0 h1 h2 h3
    go_upto_region 6 with fail
    go_cut [9, 10, 11] (fun v9 v10 v11 wx => CutX V w p p2 b1 F hb A1 v9 v10 v11 wx)
    case first =>
      have KD := Lib.hid (KV.out.on (bl_drew (Below.refl _ _)))
      have KZ := Lib.hid (KV.out.on (bl_alloc (Below.refl _ _) (.cells #[.int .i64 0, .int .i64 0, .int .i64 0, .int .i64 0] 39)))
      have KZD := Lib.hid (KV.out.on (bl_drew (bl_alloc (Below.refl _ _) (.cells #[.int .i64 0, .int .i64 0, .int .i64 0, .int .i64 0] 39))))
      have G0 := Lib.hid (show (fun w' => w'.cell? ⟨b1, 0, none⟩ = some (.pointer (some ⟨p, 0, none⟩)) ∧ w'.cell? ⟨hb, 0, none⟩ = some (.int .i64 3) ∧ w'.cell? ⟨hb, 1, none⟩ = some (.int .i64 10) ∧ w'.cell? ⟨hb, 2, none⟩ = some (.int .i64 0) ∧ w'.cell? ⟨hb, 3, none⟩ = some (.int .i64 8)) V from And.intro ((KV.out.two.cell 0).trans rfl) (cells4 HV.out))
      have G1 := Lib.hid (show (fun w' => w'.cell? ⟨b1, 0, none⟩ = some (.pointer (some ⟨p, 0, none⟩)) ∧ w'.cell? ⟨hb, 0, none⟩ = some (.int .i64 3) ∧ w'.cell? ⟨hb, 1, none⟩ = some (.int .i64 10) ∧ w'.cell? ⟨hb, 2, none⟩ = some (.int .i64 0) ∧ w'.cell? ⟨hb, 3, none⟩ = some (.int .i64 8)) V.drew from And.intro ((KD.out.two.cell 0).trans rfl) (cells4 HV.out.drew))
      have G2 := Lib.hid (show (fun w' => w'.cell? ⟨b1, 0, none⟩ = some (.pointer (some ⟨p, 0, none⟩)) ∧ w'.cell? ⟨hb, 0, none⟩ = some (.int .i64 3) ∧ w'.cell? ⟨hb, 1, none⟩ = some (.int .i64 10) ∧ w'.cell? ⟨hb, 2, none⟩ = some (.int .i64 0) ∧ w'.cell? ⟨hb, 3, none⟩ = some (.int .i64 8)) (V.alloc (.cells #[.int .i64 0, .int .i64 0, .int .i64 0, .int .i64 0] 39)) from And.intro ((KZ.out.two.cell 0).trans rfl) (cells4 (HV.out.alloc (.cells #[.int .i64 0, .int .i64 0, .int .i64 0, .int .i64 0] 39))))
      have G3 := Lib.hid (show (fun w' => w'.cell? ⟨b1, 0, none⟩ = some (.pointer (some ⟨p, 0, none⟩)) ∧ w'.cell? ⟨hb, 0, none⟩ = some (.int .i64 3) ∧ w'.cell? ⟨hb, 1, none⟩ = some (.int .i64 10) ∧ w'.cell? ⟨hb, 2, none⟩ = some (.int .i64 0) ∧ w'.cell? ⟨hb, 3, none⟩ = some (.int .i64 8)) (V.alloc (.cells #[.int .i64 0, .int .i64 0, .int .i64 0, .int .i64 0] 39)).drew from And.intro ((KZD.out.two.cell 0).trans rfl) (cells4 (HV.out.alloc (.cells #[.int .i64 0, .int .i64 0, .int .i64 0, .int .i64 0] 39)).drew))
      have IN5 := Lib.hid (fun (W' : World) (g : Nat) (hh : Held W' p F A1) (hr : rowAt W' g 33 (ceL oneM)) (hg : ¬ F g) => show Calls Tryz.prog 25 #[.pointer (some ⟨p, 0, none⟩), .agg #[.int .i64 3, .int .i64 10, .int .i64 0, .int .i64 8], .slice (some ⟨g, 0, none⟩) 5 5] W' (InT A1 3 10 0 8 oneM p F W') from dIn_any (m := oneM) (a := some ⟨g, 0, none⟩) (cap := 5) hh 3 10 0 8 (row_rd hr hg) (by decide))
      have LT := KV.out.held.lt
      have NFL := Lib.hid LT
      clear LT
      have ZL := Lib.hid (show b1 < V.heap.size from KV.out.two.lt)
      have ZB := Lib.hid (show w.heap.size ≤ V.heap.size from KV.out.below.size)
      have nhW : hb ≠ V.heap.size := by have := HV.out.lt; omega
      have nbW : b1 ≠ V.heap.size := by have := ZL.out; omega
      go_wp2_with fail
      go_region_held3 (fun w' => w'.cell? ⟨b1, 0, none⟩ = some (.pointer (some ⟨p, 0, none⟩)) ∧ w'.cell? ⟨hb, 0, none⟩ = some (.int .i64 3) ∧ w'.cell? ⟨hb, 1, none⟩ = some (.int .i64 10) ∧ w'.cell? ⟨hb, 2, none⟩ = some (.int .i64 0) ∧ w'.cell? ⟨hb, 3, none⟩ = some (.int .i64 8))
        (first | with_reducible exact G0.out | with_reducible exact G1.out | with_reducible exact G2.out | with_reducible exact G3.out | with_reducible exact Y3.out | with_reducible exact Y4.out | with_reducible exact Y5.out | with_reducible exact Y6.out | ((refine ⟨?_, ?_, ?_, ?_, ?_⟩ <;> simp [go_sem, y4, l4, l5, h0, h1, h2, h3, nbW, nb3, nhW, nh3]); done))
        (first
        | (go_at_call 26
           with_reducible refine (one_any V.drew).mono ?_
           rintro e w3 ⟨rfl, hr3, b3⟩
           have K3 := Lib.hid (KD.out.on b3)
           have O3 := Lib.hid (show rowAt w3 V.heap.size 33 (ceL oneM) from hr3)
           have HV3 := Lib.hid (HV.out.drew.below b3 HV.out.lt)
           have B3 := Lib.hid (bl_call (bl_drew (Below.refl V.heap.size V)) b3)
           have nh3 : hb ≠ w3.heap.size := by have := HV3.out.lt; omega
           have S3 : Hid (V.heap.size ≤ w3.heap.size) := Lib.hid (by have := b3.size; simp at this; omega)
           have nb3 : b1 ≠ w3.heap.size := by have := ZL.out; have := S3.out; omega
           have Y3 := Lib.hid (show (fun w' => w'.cell? ⟨b1, 0, none⟩ = some (.pointer (some ⟨p, 0, none⟩)) ∧ w'.cell? ⟨hb, 0, none⟩ = some (.int .i64 3) ∧ w'.cell? ⟨hb, 1, none⟩ = some (.int .i64 10) ∧ w'.cell? ⟨hb, 2, none⟩ = some (.int .i64 0) ∧ w'.cell? ⟨hb, 3, none⟩ = some (.int .i64 8)) w3 from And.intro ((K3.out.two.cell 0).trans rfl) (cells4 HV3.out))
           have Y5 := Lib.hid (show (fun w' => w'.cell? ⟨b1, 0, none⟩ = some (.pointer (some ⟨p, 0, none⟩)) ∧ w'.cell? ⟨hb, 0, none⟩ = some (.int .i64 3) ∧ w'.cell? ⟨hb, 1, none⟩ = some (.int .i64 10) ∧ w'.cell? ⟨hb, 2, none⟩ = some (.int .i64 0) ∧ w'.cell? ⟨hb, 3, none⟩ = some (.int .i64 8)) (w3.alloc (.cells #[.int .i64 0, .int .i64 0, .int .i64 0, .int .i64 0] 39)) from And.intro (((K3.out.on (bl_alloc (Below.refl _ _) (.cells #[.int .i64 0, .int .i64 0, .int .i64 0, .int .i64 0] 39))).two.cell 0).trans rfl) (cells4 (HV3.out.alloc (.cells #[.int .i64 0, .int .i64 0, .int .i64 0, .int .i64 0] 39))))
           have Y6 := Lib.hid (show (fun w' => w'.cell? ⟨b1, 0, none⟩ = some (.pointer (some ⟨p, 0, none⟩)) ∧ w'.cell? ⟨hb, 0, none⟩ = some (.int .i64 3) ∧ w'.cell? ⟨hb, 1, none⟩ = some (.int .i64 10) ∧ w'.cell? ⟨hb, 2, none⟩ = some (.int .i64 0) ∧ w'.cell? ⟨hb, 3, none⟩ = some (.int .i64 8)) (w3.alloc (.cells #[.int .i64 0, .int .i64 0, .int .i64 0, .int .i64 0] 39)).drew from And.intro (((K3.out.on (bl_drew (bl_alloc (Below.refl _ _) (.cells #[.int .i64 0, .int .i64 0, .int .i64 0, .int .i64 0] 39)))).two.cell 0).trans rfl) (cells4 (HV3.out.alloc (.cells #[.int .i64 0, .int .i64 0, .int .i64 0, .int .i64 0] 39)).drew))
           clear hr3 b3)
        | (go_at_call 26
           with_reducible refine (one_any (V.alloc (.cells #[.int .i64 0, .int .i64 0, .int .i64 0, .int .i64 0] 39)).drew).mono ?_
           rintro e w3 ⟨rfl, hr3, b3⟩
           have K3 := Lib.hid (KZD.out.on b3)
           have O3 := Lib.hid (show rowAt w3 (V.heap.size + 1) 33 (ceL oneM) by simpa using hr3)
           have HV3 := Lib.hid ((HV.out.alloc (.cells #[.int .i64 0, .int .i64 0, .int .i64 0, .int .i64 0] 39)).drew.below b3 (HV.out.alloc (.cells #[.int .i64 0, .int .i64 0, .int .i64 0, .int .i64 0] 39)).lt)
           have B3 := Lib.hid (bl_call (bl_drew (bl_alloc (Below.refl V.heap.size V) (.cells #[.int .i64 0, .int .i64 0, .int .i64 0, .int .i64 0] 39))) b3)
           have nh3 : hb ≠ w3.heap.size := by have := HV3.out.lt; omega
           have S3 : Hid (V.heap.size ≤ w3.heap.size) := Lib.hid (by have := b3.size; simp at this; omega)
           have RZ3 := Lib.hid ((rowAt.made V 39 [.int .i64 0, .int .i64 0, .int .i64 0, .int .i64 0]).drew.below b3 (by simp))
           have nb3 : b1 ≠ w3.heap.size := by have := ZL.out; have := S3.out; omega
           have Y3 := Lib.hid (show (fun w' => w'.cell? ⟨b1, 0, none⟩ = some (.pointer (some ⟨p, 0, none⟩)) ∧ w'.cell? ⟨hb, 0, none⟩ = some (.int .i64 3) ∧ w'.cell? ⟨hb, 1, none⟩ = some (.int .i64 10) ∧ w'.cell? ⟨hb, 2, none⟩ = some (.int .i64 0) ∧ w'.cell? ⟨hb, 3, none⟩ = some (.int .i64 8)) w3 from And.intro ((K3.out.two.cell 0).trans rfl) (cells4 HV3.out))
           have Y5 := Lib.hid (show (fun w' => w'.cell? ⟨b1, 0, none⟩ = some (.pointer (some ⟨p, 0, none⟩)) ∧ w'.cell? ⟨hb, 0, none⟩ = some (.int .i64 3) ∧ w'.cell? ⟨hb, 1, none⟩ = some (.int .i64 10) ∧ w'.cell? ⟨hb, 2, none⟩ = some (.int .i64 0) ∧ w'.cell? ⟨hb, 3, none⟩ = some (.int .i64 8)) (w3.alloc (.cells #[.int .i64 0, .int .i64 0, .int .i64 0, .int .i64 0] 39)) from And.intro (((K3.out.on (bl_alloc (Below.refl _ _) (.cells #[.int .i64 0, .int .i64 0, .int .i64 0, .int .i64 0] 39))).two.cell 0).trans rfl) (cells4 (HV3.out.alloc (.cells #[.int .i64 0, .int .i64 0, .int .i64 0, .int .i64 0] 39))))
           have Y6 := Lib.hid (show (fun w' => w'.cell? ⟨b1, 0, none⟩ = some (.pointer (some ⟨p, 0, none⟩)) ∧ w'.cell? ⟨hb, 0, none⟩ = some (.int .i64 3) ∧ w'.cell? ⟨hb, 1, none⟩ = some (.int .i64 10) ∧ w'.cell? ⟨hb, 2, none⟩ = some (.int .i64 0) ∧ w'.cell? ⟨hb, 3, none⟩ = some (.int .i64 8)) (w3.alloc (.cells #[.int .i64 0, .int .i64 0, .int .i64 0, .int .i64 0] 39)).drew from And.intro (((K3.out.on (bl_drew (bl_alloc (Below.refl _ _) (.cells #[.int .i64 0, .int .i64 0, .int .i64 0, .int .i64 0] 39)))).two.cell 0).trans rfl) (cells4 (HV3.out.alloc (.cells #[.int .i64 0, .int .i64 0, .int .i64 0, .int .i64 0] 39)).drew))
           clear hr3 b3)
        | (go_at_call 25
           have RZ := RZ3.out
           with_reducible refine (IN5.out w3 _ K3.out.held O3.out (fun hf => by have := NFL.out _ hf; omega)).mono ?_
           rintro e w4 hin
           obtain ⟨hs4, rfl, hh4⟩ := wak_in2 O1.out hin
           have HV4 := Lib.hid (HV3.out.upon hs4.upon HN.out)
           have U4 := Lib.hid ((Upon.of_below (S := F) B3.out).trans hs4.upon (fun _ _ h => h))
           have K4 := Lib.hid (K3.out.step hs4 hh4)
           have RZ4 := Lib.hid (RZ.upon hs4.upon (fun hf => by have := NFL.out _ hf; have := S3.out; omega))
           obtain ⟨z0, z1, z2, z3⟩ := cells4 RZ4.out
           have f0 := RZ4.out.free 0
           have f1 := RZ4.out.free 1
           have f2 := RZ4.out.free 2
           have f3 := RZ4.out.free 3
           have lz := RZ4.out.lt
           have Y4 := Lib.hid (show (fun w' => w'.cell? ⟨b1, 0, none⟩ = some (.pointer (some ⟨p, 0, none⟩)) ∧ w'.cell? ⟨hb, 0, none⟩ = some (.int .i64 3) ∧ w'.cell? ⟨hb, 1, none⟩ = some (.int .i64 10) ∧ w'.cell? ⟨hb, 2, none⟩ = some (.int .i64 0) ∧ w'.cell? ⟨hb, 3, none⟩ = some (.int .i64 8)) w4 from And.intro ((K4.out.two.cell 0).trans rfl) (cells4 HV4.out))
           obtain ⟨y4, h0, h1, h2, h3⟩ := Y4.out
           have l4 := K4.out.two.lt
           have l5 := HV4.out.lt
           clear hin hs4 hh4)
        | (go_at_call 25
           with_reducible refine (IN5.out w3 _ K3.out.held O3.out (fun hf => by have := NFL.out _ hf; omega)).mono ?_
           rintro e w4 hin
           obtain ⟨hs4, rfl, hh4⟩ := wak_in2 O1.out hin
           have HV4 := Lib.hid (HV3.out.upon hs4.upon HN.out)
           have U4 := Lib.hid ((Upon.of_below (S := F) B3.out).trans hs4.upon (fun _ _ h => h))
           have K4 := Lib.hid (K3.out.step hs4 hh4)
           have Y4 := Lib.hid (show (fun w' => w'.cell? ⟨b1, 0, none⟩ = some (.pointer (some ⟨p, 0, none⟩)) ∧ w'.cell? ⟨hb, 0, none⟩ = some (.int .i64 3) ∧ w'.cell? ⟨hb, 1, none⟩ = some (.int .i64 10) ∧ w'.cell? ⟨hb, 2, none⟩ = some (.int .i64 0) ∧ w'.cell? ⟨hb, 3, none⟩ = some (.int .i64 8)) w4 from And.intro ((K4.out.two.cell 0).trans rfl) (cells4 HV4.out))
           obtain ⟨y4, h0, h1, h2, h3⟩ := Y4.out
           have l4 := K4.out.two.lt
           have l5 := HV4.out.lt
           clear hin hs4 hh4)
        | (go_at_call 25
           with_reducible refine (IN5.out (w3.alloc (.cells #[.int .i64 0, .int .i64 0, .int .i64 0, .int .i64 0] 39)) _ (K3.out.on (bl_alloc (Below.refl _ _) (.cells #[.int .i64 0, .int .i64 0, .int .i64 0, .int .i64 0] 39))).held (O3.out.alloc (.cells #[.int .i64 0, .int .i64 0, .int .i64 0, .int .i64 0] 39)) (fun hf => by have := NFL.out _ hf; omega)).mono ?_
           rintro e w4 hin
           obtain ⟨hs4, rfl, hh4⟩ := wak_in2 O1.out hin
           have HV4 := Lib.hid ((HV3.out.alloc (.cells #[.int .i64 0, .int .i64 0, .int .i64 0, .int .i64 0] 39)).upon hs4.upon HN.out)
           have U4 := Lib.hid ((Upon.of_below (S := F) (bl_alloc B3.out (.cells #[.int .i64 0, .int .i64 0, .int .i64 0, .int .i64 0] 39))).trans hs4.upon (fun _ _ h => h))
           have K4 := Lib.hid ((K3.out.on (bl_alloc (Below.refl _ _) (.cells #[.int .i64 0, .int .i64 0, .int .i64 0, .int .i64 0] 39))).step hs4 hh4)
           have RZ4 := Lib.hid ((rowAt.made w3 39 [.int .i64 0, .int .i64 0, .int .i64 0, .int .i64 0]).upon hs4.upon (fun hf => by have := NFL.out _ hf; have := S3.out; omega))
           obtain ⟨z0, z1, z2, z3⟩ := cells4 RZ4.out
           have f0 := RZ4.out.free 0
           have f1 := RZ4.out.free 1
           have f2 := RZ4.out.free 2
           have f3 := RZ4.out.free 3
           have lz := RZ4.out.lt
           have Y4 := Lib.hid (show (fun w' => w'.cell? ⟨b1, 0, none⟩ = some (.pointer (some ⟨p, 0, none⟩)) ∧ w'.cell? ⟨hb, 0, none⟩ = some (.int .i64 3) ∧ w'.cell? ⟨hb, 1, none⟩ = some (.int .i64 10) ∧ w'.cell? ⟨hb, 2, none⟩ = some (.int .i64 0) ∧ w'.cell? ⟨hb, 3, none⟩ = some (.int .i64 8)) w4 from And.intro ((K4.out.two.cell 0).trans rfl) (cells4 HV4.out))
           obtain ⟨y4, h0, h1, h2, h3⟩ := Y4.out
           have l4 := K4.out.two.lt
           have l5 := HV4.out.lt
           clear hin hs4 hh4))
      all_goals
        go_wp2_with fail
        go_meet
        first
          | exact cutX_last K4.out HV4.out U4.out
          | exact cutX_set K4.out HV4.out RZ4.out (fun hf => by have := NFL.out _ hf; have := S3.out; omega) (by have := ZL.out; have := S3.out; omega) (by have := HV.out.lt; have := S3.out; omega) (by have := ZB.out; have := S3.out; omega) U4.out (by have := S3.out; omega)
    case rest =>
      obtain ⟨hu, gb, rfl, rfl, rfl, hk2, hh2, hg2⟩ := hcut
      obtain ⟨W1, hW1⟩ : ∃ W1, wc.alloc (.cells #[.int .i64 6, .int .i64 1, .int .i64 0, .slice none 0 0, .int .i64 1, .int .i64 0, .int .i64 0, .slice none 0 0] 30) = W1 := ⟨_, rfl⟩
      obtain ⟨W2, hW2⟩ : ∃ W2, W1.alloc (.cells #[.int .i64 1, .int .i64 1, .int .i64 2, .string ⟨#[]⟩, .int .i64 0, .int .i64 0, .int .i64 1, .string ⟨#[]⟩, .int .i64 0, .int .i64 0, .int .i64 0, .string ⟨#[]⟩] 33) = W2 := ⟨_, rfl⟩
      have bw1 : Below wc.heap.size wc W1 := by rw [← hW1]; exact bl_alloc (Below.refl _ _) _
      have bw2 : Below W1.heap.size W1 W2 := by rw [← hW2]; exact bl_alloc (Below.refl _ _) _
      have bw := bl_call bw1 bw2
      have FR0 : rowAt W1 wc.heap.size 30 [.int .i64 6, .int .i64 1, .int .i64 0, .slice none 0 0, .int .i64 1, .int .i64 0, .int .i64 0, .slice none 0 0] := by rw [← hW1]; exact rowAt.made _ _ _
      have FR := Lib.hid (FR0.below bw2 FR0.lt)
      have LR := Lib.hid (show rowAt W2 W1.heap.size 33 (ceL twoM) by rw [← hW2]; exact rowAt.made _ _ _)
      have HX := Lib.hid (hh2.below bw hh2.lt)
      have GX := Lib.hid (hg2.below bw hg2.lt)
      have RX := Lib.hid ((RM.out.upon hu (fun k _ hk => .inl hk)).below bw)
      have BX := Lib.hid (bl_call hk2.below bw)
      have TX := Lib.hid (HT.out.below BX.out)
      have B0 := Lib.hid (Below.refl W2.heap.size W2)
      obtain ⟨h0, h1, h2, h3⟩ := cells4 HX.out
      obtain ⟨g0, g1, g2, g3⟩ := cells4 GX.out
      have lh := HX.out.lt
      have lg := GX.out.lt
      clear hu hk2 hh2 hg2 bw1 bw2 bw FR0
      have q1 : ∀ w, (Op.equalIn 10000 39 (.agg #[.int .i64 0, .int .i64 0, .int .i64 0, .int .i64 0]) (.agg #[.int .i64 0, .int .i64 0, .int .i64 0, .int .i64 0])).run Tryz.prog w = .ok true w := fun w => by kernel_rfl
      have hsl : ∀ (g : Nat) W, (Instr.slice 24 (.slice (some ⟨g, 0, none⟩) 5 5) (some (.int .i64 1)) none none).run Tryz.prog W = .ok (.slice (some ⟨g, 4, none⟩) 4 4) W := fun g W => by
        obtain ⟨ic, hic, hc0, hc1, hc2⟩ := info_parts info_cell
        have h := run_slice_from_w (P := Tryz.prog) 24 33 under_cells hic (some ⟨g, 0, none⟩) (n := 5) (c := 5) (k := 1) (by omega) W
        rw [hc1] at h
        exact h
      go_wp2_with fail
      clear hW1 hW2
      refine (one_any _).mono ?_
      rintro e v1 ⟨rfl, hr, hb1⟩
      have O1 := Lib.hid hr
      have B1 := Lib.hid (bl_call B0.out hb1)
      clear hr hb1
      go_wp2_with fail
      refine (keepMessage_is (xs := oneM) (ys := oneM) (RX.out.below B1.out) (row_rd (F := fun _ => False) O1.out (fun h => h)) (by decide) (B := true) (by simp)).mono ?_
      rintro e v2 ⟨rfl, hb2⟩
      have B2 := Lib.hid (bl_call B1.out hb2)
      clear hb2
      obtain ⟨g0, g1, g2, g3⟩ := cells4 (GX.out.below B2.out GX.out.lt)
      have lg2 := (GX.out.below B2.out GX.out.lt).lt
      go_wp2_with fail
      refine (one_any _).mono ?_
      rintro e v3 ⟨rfl, hr, hb3⟩
      have O3 := Lib.hid hr
      have B3 := Lib.hid (bl_call B2.out hb3)
      clear hr hb3
      go_wp2_with fail
      refine (dwords_is (m := oneM) (n := 8) (by decide +kernel) (row_rd (F := fun _ => False) O3.out (fun h => h))).mono ?_
      rintro e v4 ⟨rfl, hb4⟩
      have B4 := Lib.hid (bl_call B3.out hb4)
      clear hb4
      go_wp2_with fail
      refine (one_any _).mono ?_
      rintro e v5 ⟨rfl, hr, hb5⟩
      have O5 := Lib.hid hr
      have B5 := Lib.hid (bl_call B4.out hb5)
      clear hr hb5
      go_wp2_with fail
      refine (dgood_is one_good (row_rd (F := fun _ => False) O5.out (fun h => h))).mono ?_
      rintro e v6 ⟨rfl, hb6⟩
      have B6 := Lib.hid (bl_call B5.out hb6)
      clear hb6
      go_wp2_with fail
      refine (one_any _).mono ?_
      rintro e v7 ⟨rfl, hr, hb7⟩
      have O7 := Lib.hid hr
      have B7 := Lib.hid (bl_call B6.out hb7)
      clear hr hb7
      go_wp2_with fail
      refine (dgood_is (m := oneM.tail) one_tail (rd_tailD O7.out)).mono ?_
      rintro e v8 ⟨rfl, hb8⟩
      have B8 := Lib.hid (bl_call B7.out hb8)
      clear hb8
      go_wp2_with fail
      refine (wak_fits (m := twoM) (TX.out.below B8.out) (FR.out.below B8.out FR.out.lt) (row_rd (F := fun _ => False) (LR.out.below B8.out LR.out.lt) (fun h => h)) two_good wak_yes).mono ?_
      rintro e v9 ⟨rfl, hb9⟩
      have B9 := Lib.hid (bl_call B8.out hb9)
      clear hb9
      go_wp2_with fail
      refine (one_any _).mono ?_
      rintro e v10 ⟨rfl, hr, hb10⟩
      have O10 := Lib.hid hr
      have B10 := Lib.hid (bl_call B9.out hb10)
      clear hr hb10
      go_wp2_with fail
      refine (wak_fits (m := oneM) (TX.out.below B10.out) (FR.out.below B10.out FR.out.lt) (row_rd (F := fun _ => False) O10.out (fun h => h)) one_good wak_no).mono ?_
      rintro e v11 ⟨rfl, hb11⟩
      have B11 := Lib.hid (bl_call B10.out hb11)
      clear hb11
      go_wp2_with fail
      refine (wak_fits2 (m := twoM) (TX.out.below B11.out) (FR.out.below B11.out FR.out.lt) (row_rd (F := fun _ => False) (LR.out.below B11.out LR.out.lt) (fun h => h))).mono ?_
      rintro e v12 ⟨rfl, hb12⟩
      have B12 := Lib.hid (bl_call B11.out hb12)
      clear hb12
      go_wp2_with fail
      go_ret
      exact ⟨rfl, bl_call BX.out B12.out⟩
end Go.Proofs.YtajkkinolpkfmaaGreatDoor

/-
  The law DataFits: its forms in memory, the source of an append of forms.
  Conditions: as each states.
-/
namespace Go.Proofs.YtajkkinolpkfmaaGreatDoor
set_option linter.unusedVariables false
set_option linter.unusedSimpArgs false
open Go.ChangeShapes Go.WideShapes Go.ChangeAt Go.RowKit
set_option maxRecDepth 100000

theorem fms_choose {S : Nat → Prop} {w : World} {b : Nat} : ∀ (l : List PFm) (o : Nat), (∀ i x, l[i]? = some x → fmAt S w b (o + i * 4) x) →
    ∃ ys : List (PFm × Value), ys.map (·.1) = l ∧ Inner S w (fun m : PFm => m.2.2.2.length) (fun m => intL m.2.2.2) ys ∧ ∀ j u, (ys.flatMap fmC)[j]? = some u → w.cell? ⟨b, o + j, none⟩ = some u
  | [], o, _ => ⟨[], rfl, (fun y hy => by cases hy), (fun j u h => by simp at h)⟩
  | x :: l, o, h => by
    obtain ⟨c0, c1, c2, v, c3, hr⟩ := h 0 x rfl
    rw [Nat.zero_mul, Nat.add_zero] at c0 c1 c2 c3
    obtain ⟨ys, h1, h2, h3⟩ := fms_choose l (o + 4) (fun i y hi => by have := h (i + 1) y (by simpa using hi); rwa [show o + (i + 1) * 4 = o + 4 + i * 4 by omega] at this)
    refine ⟨(x, v) :: ys, by rw [List.map_cons, h1], ?_, ?_⟩
    · intro y hy
      rcases List.mem_cons.1 hy with rfl | hy
      · exact hr
      · exact h2 y hy
    · intro j u hj
      rw [List.flatMap_cons] at hj
      match j, hj with
      | 0, hj => cases hj; exact c0
      | 1, hj => cases hj; exact c1
      | 2, hj => cases hj; exact c2
      | 3, hj => cases hj; exact c3
      | j + 4, hj =>
        have := h3 j u (by simpa [fmC] using hj)
        rwa [show o + 4 + j = o + (j + 4) by omega] at this
theorem fmC_length (ys : List (PFm × Value)) : (ys.flatMap fmC).length = ys.length * 4 := flat_len fmC 4 (fun _ => rfl) ys
theorem fmC_one {S : Nat → Prop} {w : World} {ys : List (PFm × Value)} (h : Inner S w (fun m : PFm => m.2.2.2.length) (fun m => intL m.2.2.2) ys) : ∀ u ∈ ys.flatMap fmC, u.oneCell' = true := by
  intro u hu
  obtain ⟨y, hy, hs⟩ := List.mem_flatMap.1 hu
  obtain ⟨a, c, e, _⟩ := h y hy
  simp only [fmC, List.mem_cons, List.not_mem_nil, or_false] at hs
  rcases hs with rfl | rfl | rfl | rfl
  · rfl
  · rfl
  · rfl
  · rw [e]; rfl
/-- The cells of a list of forms, as an append reads them. -/
theorem fms_src {S : Nat → Prop} {w : World} {a : Option Addr} {c : Nat} {f : List PFm} (h : fmsAt S w (.slice a f.length c) f) :
    ∃ ys : List (PFm × Value), ys.map (·.1) = f ∧ Inner S w (fun m : PFm => m.2.2.2.length) (fun m => intL m.2.2.2) ys ∧ ∀ W, Below w.heap.size w W → f.length = 0 ∨ ∃ ad, a = some ad ∧ ∀ j u, (ys.flatMap fmC)[j]? = some u → W.cell? (ad.add j) = some u := by
  obtain ⟨a', c', e, h⟩ := h
  injection e with e1 e2 e3
  subst e1
  rcases h with h | ⟨b, o, rfl, _, hb, hc⟩
  · obtain rfl := List.length_eq_zero_iff.1 h
    exact ⟨[], rfl, (fun y hy => by cases hy), fun W _ => .inl rfl⟩
  · obtain ⟨ys, h1, h2, h3⟩ := fms_choose f o hc
    refine ⟨ys, h1, h2, fun W hW => .inr ⟨_, rfl, fun j u hj => ?_⟩⟩
    rw [Addr.add_lit, cell_upon (upon_of_below hW) hb fun t => t]
    exact h3 j u hj
theorem inner_below {S : Nat → Prop} {w w' : World} {ys : List (PFm × Value)} (h : Inner S w (fun m : PFm => m.2.2.2.length) (fun m => intL m.2.2.2) ys) (hb : Below w.heap.size w w') : Inner S w' (fun m : PFm => m.2.2.2.length) (fun m => intL m.2.2.2) ys :=
  fun y hy => (h y hy).below hb
/-- The law's longer forms, in a row of its own. -/
theorem mo_at' {w : World} {B q : Nat} {T T2 : TypeId} {v : Value} {f : List PFm} {k : Int} {ys : List (PFm × Value)} (hys : ys.map (·.1) = f) (hi : Inner (fun _ => False) w (fun m : PFm => m.2.2.2.length) (fun m => intL m.2.2.2) ys)
    (hq : rowAt w q T2 [.int .i64 (-1), .int .i64 k])
    (ho : w.ownsRow B T 4 v (f.length + 3) (ys.flatMap fmC ++ [.int .i64 5, .int .i64 k, .int .i64 k, .slice none 0 0, .int .i64 6, .int .i64 k, .int .i64 0, .slice none 0 0, .int .i64 7, .int .i64 0, .int .i64 0, .slice (some ⟨q, 0, none⟩) 2 2])) :
    fmsAt (fun _ => False) w v (mo f k) := by
  have e : (ys ++ [(((5, k, k, []) : PFm), Value.slice none 0 0), ((6, k, 0, []), .slice none 0 0), ((7, 0, 0, [-1, k]), .slice (some ⟨q, 0, none⟩) 2 2)]).map (·.1) = mo f k := by
    rw [List.map_append, hys]; rfl
  rw [← e]
  have hl : ys.length = f.length := by rw [← hys, List.length_map]
  have hrow : rdAt (fun _ => False) w (.slice (some ⟨q, 0, none⟩) 2 2) 2 (intL [-1, k]) := ⟨_, _, rfl, .inr ⟨q, 0, rfl, fun h => h, hq.lt, fun j u hj => by rw [hq.cell, Nat.zero_add]; exact hj⟩⟩
  refine many_of (B := B) (T := T) fmC (fun _ => rfl) ?_ (fun _ _ h => h) fun y hy b o hc => ⟨hc 0 _ rfl, hc 1 _ rfl, hc 2 _ rfl, y.2, hc 3 _ rfl, ?_⟩
  · rw [List.flatMap_append, List.length_append, hl]
    exact ho
  · rcases List.mem_append.1 hy with hy | hy
    · exact hi y hy
    · simp only [List.mem_cons, List.not_mem_nil, or_false] at hy
      rcases hy with rfl | rfl | rfl
      · exact ⟨_, _, rfl, .inl rfl⟩
      · exact ⟨_, _, rfl, .inl rfl⟩
      · exact hrow
theorem mo_fit {f : List PFm} {k : Int} (hf : ∀ x ∈ f, fmF x) (hk : (Lit.int .i64 k).wf = true) : ∀ x ∈ mo f k, fmF x := by
  intro x hx
  unfold mo at hx
  rcases List.mem_append.1 hx with hx | hx
  · exact hf x hx
  · simp only [List.mem_cons, List.not_mem_nil, or_false] at hx
    rcases hx with rfl | rfl | rfl
    · exact ⟨(by decide : (Lit.int .i64 5).wf = true), hk, hk, fun c hc => by (cases hc), Nat.zero_le _⟩
    · exact ⟨(by decide : (Lit.int .i64 6).wf = true), hk, (by decide : (Lit.int .i64 0).wf = true), fun c hc => by (cases hc), Nat.zero_le _⟩
    · refine ⟨(by decide : (Lit.int .i64 7).wf = true), (by decide : (Lit.int .i64 0).wf = true), (by decide : (Lit.int .i64 0).wf = true), fun c hc => ?_, by simp [maxLen]⟩
      simp only [List.mem_cons, List.not_mem_nil, or_false] at hc
      rcases hc with rfl | rfl
      · decide
      · exact hk
/-- One form alone. -/
theorem one_fms {w : World} {g : Nat} {T : TypeId} {t : Int} (h : rowAt w g T [.int .i64 t, .int .i64 0, .int .i64 0, .slice none 0 0]) : fmsAt (fun _ => False) w (.slice (some ⟨g, 0, none⟩) 1 1) [((t, 0, 0, []) : PFm)] := by
  refine ⟨_, _, rfl, .inr ⟨g, 0, rfl, fun h => h, h.lt, fun i x hx => ?_⟩⟩
  cases i with
  | succ i => simp at hx
  | zero =>
    cases hx
    exact ⟨by rw [h.cell]; rfl, by rw [h.cell]; rfl, by rw [h.cell]; rfl, _, by rw [h.cell]; rfl, _, _, rfl, .inl rfl⟩
theorem one_fit {t : Int} (ht : t = 1 ∨ t = 4) : ∀ x ∈ [((t, 0, 0, []) : PFm)], fmF x := by
  intro x hx
  simp only [List.mem_cons, List.not_mem_nil, or_false] at hx
  subst hx
  rcases ht with rfl | rfl <;> exact ⟨by decide, by decide, by decide, fun c hc => by (cases hc), by decide⟩
theorem fits_is {S S2 : Nat → Prop} {w : World} {b : Bool} {k : Int} {m : List PCe} {f : List PFm} (hb : fitsB f k m = b) (T : OpTab w) {va vm : Value} (h : fmsAt S w va f) (hf : ∀ m ∈ f, fmF m) (hl : f.length ≤ 1000) (hm : rdAt S2 w vm m.length (ceL m)) :
    Calls Tryz.prog 9 #[va, .int .i64 k, vm] w fun e w' => e = .returned (.bool b) ∧ Below w.heap.size w w' := hb ▸ fits_any T h hf (by unfold maxLen; omega) k hm
theorem forms_is {S : Nat → Prop} {b : Bool} {l : List PFm} (hb : rfmsG l = b) (v : Value) (w : World) (h : fmsAt S w v l) (hl : l.length ≤ maxLen) (hm : ∀ m ∈ l, m.2.2.2.length ≤ maxLen) :
    Calls Tryz.prog 6 #[v] w fun e w' => e = .returned (.bool b) ∧ Below w.heap.size w w' := hb ▸ rforms_any v l w h hl hm
theorem rgood_fits {S : Nat → Prop} {w : World} {v : Value} {m : List PCe} {b : Bool} (hb : goodMs m = b) (h : rdAt S w v m.length (ceL m)) :
    Calls Tryz.prog 7 #[v] w fun e w' => e = .returned (.bool b) ∧ Below w.heap.size w w' := hb ▸ rgoodMs_any h
end Go.Proofs.YtajkkinolpkfmaaGreatDoor

/-
  For all forms, a number and a message the law DataFits returns true, and its arguments read as they did. Condition: the three tables of package op read when the call begins as the program's text lays them (the card ties them).
-/
namespace Go.Proofs.YtajkkinolpkfmaaGreatDoor.dataFits
set_option linter.unusedVariables false
set_option linter.unusedSimpArgs false
open Go.ChangeShapes Go.WideShapes Go.ChangeAt Go.RowKit
set_option maxRecDepth 100000

theorem own : ownKnob Tryz.prog.godebug = none := by kernel_rfl
theorem laidOut : laidOutB Tryz.prog = true := by kernel_rfl

/-- A state of the law's walk: what came of the world, and what is kept however much is made behind it. -/
structure St (w : World) (P : World → Prop) (W : World) : Prop where
  below : Below w.heap.size w W
  p : P W
  keep : ∀ W1 W2, P W1 → Below W1.heap.size W1 W2 → P W2
theorem St.on {w W W' : World} {P : World → Prop} (h : St w P W) (hb : Below W.heap.size W W') : St w P W' := ⟨bl_call h.below hb, h.keep _ _ h.p hb, h.keep⟩
theorem St.add {w W : World} {P Q : World → Prop} (h : St w P W) (q : Q W) (k : ∀ W1 W2, Q W1 → Below W1.heap.size W1 W2 → Q W2) : St w (fun W => P W ∧ Q W) W :=
  ⟨h.below, ⟨h.p, q⟩, fun _ _ hp hb => ⟨h.keep _ _ hp.1 hb, k _ _ hp.2 hb⟩⟩
theorem rd_src {S : Nat → Prop} {w : World} {a : Option Addr} {c n : Nat} {cs : List Value} (h : rdAt S w (.slice a n c) n cs) : n = 0 ∨ ∃ ad, a = some ad ∧ ∀ j u, cs[j]? = some u → w.cell? (ad.add j) = some u := by
  obtain ⟨a', c', e, h⟩ := h
  cases e
  rcases h with h | ⟨b, o, rfl, _, _, hc⟩
  · exact .inl h
  · refine .inr ⟨_, rfl, fun j u hj => ?_⟩
    rw [Addr.add_lit]
    exact hc j u hj
theorem own_nilF {w : World} {T : TypeId} {s : Nat} : (w.alloc (.cells #[] T)).ownsRow w.heap.size T s (.slice (some ⟨w.heap.size, 0, none⟩) 0 0) 0 [] :=
  owns_mk (rest := []) (rowAt.made w T []) (Nat.le_refl _) (by simp) (by simp) (Nat.le_refl _) (Nat.zero_le _)
theorem own_blk {w : World} {c : PCe} : (w.alloc (.cells #[.int .i64 c.1, .int .i64 c.2.1, .int .i64 c.2.2.1, .string c.2.2.2] 33)).ownsRow w.heap.size 33 4 (.slice (some ⟨w.heap.size, 0, none⟩) 1 1) 1 (ceL [c]) :=
  owns_mk (rest := []) (rowAt.made w _ [.int .i64 c.1, .int .i64 c.2.1, .int .i64 c.2.2.1, .string c.2.2.2]) (Nat.le_refl _) rfl rfl (Nat.le_refl _) (by decide)

abbrev three (k : Int) (q : Nat) : List Value := [.int .i64 5, .int .i64 k, .int .i64 k, .slice none 0 0, .int .i64 6, .int .i64 k, .int .i64 0, .slice none 0 0, .int .i64 7, .int .i64 0, .int .i64 0, .slice (some ⟨q, 0, none⟩) 2 2]
theorem three_one (k : Int) (q : Nat) : ∀ u ∈ three k q, u.oneCell' = true := by
  intro u hu
  simp only [three, List.mem_cons, List.not_mem_nil, or_false] at hu
  rcases hu with rfl | rfl | rfl | rfl | rfl | rfl | rfl | rfl | rfl | rfl | rfl | rfl <;> rfl
theorem rd_rowF {w : World} {g n : Nat} {T : TypeId} {cs : List Value} (r : rowAt w g T cs) : rdAt (fun _ => False) w (.slice (some ⟨g, 0, none⟩) n n) n cs :=
  ⟨_, _, rfl, .inr ⟨g, 0, rfl, fun h => h, r.lt, fun j u hj => by rw [r.cell, Nat.zero_add]; exact hj⟩⟩
theorem one_rd {w : World} (c : Int) : rdAt (fun _ => False) (w.alloc (.cells #[.int .i64 0, .int .i64 0, .int .i64 c, .string ⟨#[]⟩] 33)) (.slice (some ⟨w.heap.size, 0, none⟩) 1 1) [numCe c].length (ceL [numCe c]) :=
  rd_rowF (n := 1) (rowAt.made w 33 [.int .i64 0, .int .i64 0, .int .i64 c, .string ⟨#[]⟩])
set_option maxHeartbeats 64000000 in
theorem walk (sa0 : Option Addr) (sc0 : Nat) (f : List PFm) (k : Int) (sa2 : Option Addr) (sc2 : Nat) (m : List PCe) (w : World) (hc0 : f.length ≤ sc0) (hr0 : fmsAt (fun _ => False) w (.slice sa0 f.length sc0) f) (hf0 : ∀ x ∈ f, fmF x) (hl0 : f.length ≤ reachBytes) (hn0 : ∀ x ∈ f, x.2.2.2.length ≤ reachBytes) (wk : (Lit.int .i64 k).wf = true) (hc2 : m.length ≤ sc2) (hr2 : rdAt (fun _ => False) w (.slice sa2 m.length sc2) m.length (ceL m)) (hl2 : m.length ≤ reachBytes) (T : OpTab w) :
    Calls Tryz.prog 3 #[.slice sa0 f.length sc0, .int .i64 k, .slice sa2 m.length sc2] w fun e w' => e = .returned (.bool true) ∧ Below w.heap.size w w' := by
  have HM := Lib.hid hr2
  have HR := Lib.hid hr0
  have HF := Lib.hid hf0
  have HK := Lib.hid wk
  have HT := Lib.hid T
  have HL := Lib.hid (show f.length ≤ maxLen ∧ ∀ x ∈ f, x.2.2.2.length ≤ maxLen from ⟨by simp only [maxLen, reachBytes] at *; omega, fun x hx => by have := hn0 x hx; simp only [maxLen, reachBytes] at *; omega⟩)
  have B0 := Lib.hid (Below.refl w.heap.size w)
  clear hc0 hr0 hf0 hl0 hn0 wk hc2 hr2 hl2 T
  obtain ⟨ic, hic, hc0, hc1, hc2⟩ := info_parts info_cell
  obtain ⟨jf, hjf, hj0, hj1, hj2⟩ := info_parts info_fm
  by_cases h36 : 36 < f.length
  · have d36 : (36 : Int) < (f.length : Int) := by omega
    clear h36
    go_enter Tryz.func3, Tryz.ntmps3
    go_wp2_with fail
    refine (dwakes_any _ (HT.out.below B0.out)).mono ?_
    rintro e wz ⟨rfl, hb⟩
    have BZ := Lib.hid (bl_call B0.out hb)
    clear hb
    go_wp2_with fail
    go_ret
    exact ⟨rfl, BZ.out⟩
  · have d36 : ¬ (36 : Int) < (f.length : Int) := by omega
    have H36 := Lib.hid (show f.length ≤ 36 by omega)
    clear h36
    go_enter Tryz.func3, Tryz.ntmps3
    go_wp2_with fail
    refine (largeMsg_any HM.out).mono ?_
    rintro e w1 ⟨x1, rfl, hb⟩
    have B1 := Lib.hid (bl_call B0.out hb)
    clear hb
    cases x1
    · by_cases h40 : 40 < m.length
      · have d40 : (40 : Int) < (m.length : Int) := by omega
        clear h40
        go_wp2_with fail
        refine (dwakes_any _ (HT.out.below B1.out)).mono ?_
        rintro e wz ⟨rfl, hb⟩
        have BZ := Lib.hid (bl_call B1.out hb)
        clear hb
        go_wp2_with fail
        go_ret
        exact ⟨rfl, BZ.out⟩
      · have d40 : ¬ (40 : Int) < (m.length : Int) := by omega
        have H40 := Lib.hid (show m.length ≤ 40 by omega)
        clear h40
        cases hfo : rfmsG f
        · have FO := Lib.hid hfo
          clear hfo
          go_wp2_with fail
          refine (forms_is FO.out _ _ (fms_below HR.out B1.out) HL.out.1 HL.out.2).mono ?_
          rintro e w2 ⟨rfl, hb⟩
          have B2 := Lib.hid (bl_call B1.out hb)
          clear hb
          go_wp2_with fail
          refine (dwakes_any _ (HT.out.below B2.out)).mono ?_
          rintro e wz ⟨rfl, hb⟩
          have BZ := Lib.hid (bl_call B2.out hb)
          clear hb
          go_wp2_with fail
          go_ret
          exact ⟨rfl, BZ.out⟩
        · have FO := Lib.hid hfo
          clear hfo
          go_wp2_with fail
          refine (forms_is FO.out _ _ (fms_below HR.out B1.out) HL.out.1 HL.out.2).mono ?_
          rintro e w2 ⟨rfl, hb⟩
          have B2 := Lib.hid (bl_call B1.out hb)
          clear hb
          by_cases hk0 : k < 0
          · skip
            go_wp2_with fail
            refine (dwakes_any _ (HT.out.below B2.out)).mono ?_
            rintro e wz ⟨rfl, hb⟩
            have BZ := Lib.hid (bl_call B2.out hb)
            clear hb
            go_wp2_with fail
            go_ret
            exact ⟨rfl, BZ.out⟩
          · by_cases hk1 : (f.length : Int) ≤ k
            · skip
              go_wp2_with fail
              refine (dwakes_any _ (HT.out.below B2.out)).mono ?_
              rintro e wz ⟨rfl, hb⟩
              have BZ := Lib.hid (bl_call B2.out hb)
              clear hb
              go_wp2_with fail
              go_ret
              exact ⟨rfl, BZ.out⟩
            · have hk2 : ¬ k < 0 := hk0
              have HKR := Lib.hid (show 0 ≤ k ∧ k < (f.length : Int) by omega)
              cases hg : goodMs m
              · have G1 := Lib.hid hg
                clear hg
                go_wp2_with fail
                refine (rgood_fits G1.out (HM.out.below B2.out)).mono ?_
                rintro e w3 ⟨rfl, hb⟩
                have B3 := Lib.hid (bl_call B2.out hb)
                clear hb
                go_wp2_with fail
                refine (dwakes_any _ (HT.out.below B3.out)).mono ?_
                rintro e wz ⟨rfl, hb⟩
                have BZ := Lib.hid (bl_call B3.out hb)
                clear hb
                go_wp2_with fail
                go_ret
                exact ⟨rfl, BZ.out⟩
              · have G1 := Lib.hid hg
                clear hg
                go_wp2_with fail
                refine (rgood_fits G1.out (HM.out.below B2.out)).mono ?_
                rintro e w3 ⟨rfl, hb⟩
                have B3 := Lib.hid (bl_call B2.out hb)
                clear hb
                obtain ⟨F, hF⟩ : ∃ F, fitL f [k] m = F := ⟨_, rfl⟩
                have FN := Lib.hid (fitsN FO.out H36.out HKR.out.1 HKR.out.2 G1.out H40.out hF)
                obtain ⟨ys, hys, hyi, hsrc⟩ := fms_src HR.out
                have YS := Lib.hid hys
                have YI := Lib.hid hyi
                have YR := Lib.hid hsrc
                have YL := Lib.hid (show ys.length = f.length by rw [← hys, List.length_map])
                clear hF hys hyi hsrc
                obtain ⟨WG, hWG⟩ : ∃ W, w3.alloc (.cells #[] 30) = W := ⟨_, rfl⟩
                have BG := Lib.hid (show Below w3.heap.size w3 WG by rw [← hWG]; exact bl_alloc (Below.refl _ _) _)
                have OG := Lib.hid (show WG.ownsRow w3.heap.size 30 4 (.slice (some ⟨w3.heap.size, 0, none⟩) 0 0) 0 [] by rw [← hWG]; exact own_nilF)
                have SG := Lib.hid (YR.out WG (bl_call B3.out BG.out))
                have zG : w3.heap.size ≤ WG.heap.size := BG.out.size
                have d36b : f.length ≤ 36 := H36.out
                go_wp2_with (first
                  | (at_builtin; refine wpList_append_w (by rfl) _ _ _ (by rfl) w3.heap.size 30 jf (.agg #[.int .i64 0, .int .i64 0, .int .i64 0, .slice none 0 0]) 4 48 under_fms hjf hj0 hj1 hj2 (by rfl) (by decide) (.slice (some ⟨w3.heap.size, 0, none⟩) 0 0) 0 [] (by rfl) OG.out sa0 f.length sc0 (ys.flatMap fmC) (by rfl) (by rw [fmC_length, YL.out]) (SG.out) (fmC_one YI.out) (by simp only [maxLen]; omega) (by omega) zG ?_; intro vg wg hog hgg hbg; rw [Nat.zero_add, List.nil_append] at hog; obtain ⟨ag, cg, rfl⟩ := owns_slice hog; have Og := Lib.hid hog; have Bg := Lib.hid (BG.out.trans ((grown_upon hgg).belowB BG.out.size (fun k e => (OG.out.lt k e).1))); clear hog hgg hbg; obtain ⟨VG, hVG⟩ : ∃ W, (wg.alloc (.cells #[.int .i64 (-1), .int .i64 k] 3)).alloc (.cells #[.int .i64 5, .int .i64 k, .int .i64 k, .slice none 0 0, .int .i64 6, .int .i64 k, .int .i64 0, .slice none 0 0, .int .i64 7, .int .i64 0, .int .i64 0, .slice (some ⟨wg.heap.size, 0, none⟩) 2 2] 30) = W := ⟨_, rfl⟩; have BV := Lib.hid (show Below wg.heap.size wg VG by { rw [← hVG]; exact bl_alloc (bl_alloc (Below.refl _ _) _) _ }); have OV := Lib.hid (owns_below Og.out BV.out (fun q hq => (Og.out.lt q hq).2)); have QV := Lib.hid (show rowAt VG wg.heap.size 3 [.int .i64 (-1), .int .i64 k] by { rw [← hVG]; exact (rowAt.made wg _ _).alloc _ }); have SV := Lib.hid (rd_src (rd_rowF (n := 3) (show rowAt VG (wg.heap.size + 1) 30 (three k wg.heap.size) by { rw [← hVG]; exact rowAt.made_at _ _ (by simp) }))); have BVG := Lib.hid (bl_call Bg.out BV.out); have zV : w3.heap.size ≤ VG.heap.size := BVG.out.size)
                  | (at_builtin; refine wpList_append_w (by rfl) _ _ _ (by rfl) w3.heap.size 30 jf (.agg #[.int .i64 0, .int .i64 0, .int .i64 0, .slice none 0 0]) 4 48 under_fms hjf hj0 hj1 hj2 (by rfl) (by decide) (.slice ag f.length cg) f.length (ys.flatMap fmC) (by rfl) OV.out (some ⟨wg.heap.size + 1, 0, none⟩) 3 3 (three k wg.heap.size) (by rfl) (by rfl) (SV.out) (three_one _ _) (by simp only [maxLen]; omega) (by omega) zV ?_; intro vh wh hoh hgh hbh; obtain ⟨ah, ch, rfl⟩ := owns_slice hoh; have Oh := Lib.hid hoh; have Bh := Lib.hid (BVG.out.trans ((grown_upon hgh).belowB BVG.out.size (fun k e => (OV.out.lt k e).1))); have Qh := Lib.hid (QV.out.upon (grown_upon hgh) (fun e => by have := (Og.out.lt _ e).2; omega)); clear hoh hgh hbh))
                have GF := Lib.hid (show fmsAt (fun _ => False) wh (.slice ah (f.length + 3) ch) (mo f k) from mo_at' YS.out (inner_below YI.out (bl_call B3.out Bh.out)) Qh.out Oh.out)
                have K4 := Lib.hid (show St w (fun W => fmsAt (fun _ => False) W (.slice ah (f.length + 3) ch) (mo f k)) wh from ⟨bl_call B3.out Bh.out, GF.out, fun _ _ h hb => fms_below h hb⟩)
                have MF := Lib.hid (mo_fit HF.out HK.out)
                have ML := Lib.hid (show (mo f k).length ≤ 1000 by rw [mo_length]; omega)
                clear hWG hVG BG OG SG zG Og Bg BV OV QV SV BVG zV Oh Bh Qh GF YS YI YR YL
                obtain ⟨w4, hw4⟩ : ∃ W, wh = W := ⟨_, rfl⟩
                rw [hw4] at K4 ⊢
                clear hw4
                go_wp2_with fail
                refine (fits_is FN.out.a1 (HT.out.below K4.out.below) (fms_below HR.out K4.out.below) HF.out (by omega) (HM.out.below K4.out.below)).mono ?_
                rintro e w5 ⟨rfl, hb⟩
                have K5 := Lib.hid (K4.out.on hb)
                clear hb
                obtain ⟨Wu, hWu⟩ : ∃ W, w5.alloc (.cells #[.int .i64 1, .int .i64 0, .int .i64 2, .string ⟨#[]⟩] 33) = W := ⟨_, rfl⟩
                have Bu := Lib.hid (show Below w5.heap.size w5 Wu by { rw [← hWu]; exact bl_alloc (Below.refl _ _) _ })
                have Ou := Lib.hid (show Wu.ownsRow w5.heap.size 33 4 (.slice (some ⟨w5.heap.size, 0, none⟩) 1 1) 1 (ceL [blkCe 0 2]) by { rw [← hWu]; exact own_blk (c := blkCe 0 2) })
                have Su := Lib.hid (rd_src (HM.out.below (bl_call K5.out.below Bu.out)))
                have zu : w5.heap.size ≤ Wu.heap.size := Bu.out.size
                go_wp2_with (first
                  | (at_builtin; refine wpList_append_w (by rfl) _ _ _ (by rfl) w5.heap.size 33 ic (.agg #[.int .i64 0, .int .i64 0, .int .i64 0, .string ⟨#[]⟩]) 4 40 under_cells hic hc0 hc1 hc2 (by rfl) (by decide) (.slice (some ⟨w5.heap.size, 0, none⟩) 1 1) 1 (ceL [blkCe 0 2]) (by rfl) Ou.out sa2 m.length sc2 (ceL m) (by rfl) (ceL_length _) (Su.out) (ceL_one) (by simp only [maxLen]; omega) (by omega) zu ?_; intro vu0 wu0 hou0 hgu0 hbu0; obtain ⟨au0, cu0, rfl⟩ := owns_slice hou0; have Ou0 := Lib.hid hou0; have Bu0 := Lib.hid (Bu.out.trans ((grown_upon hgu0).belowB Bu.out.size (fun k e => (Ou.out.lt k e).1))); have zu0 : w5.heap.size ≤ wu0.heap.size := Bu0.out.size; clear hou0 hgu0 hbu0; have Su0 := Lib.hid (rd_src (HM.out.below (bl_call K5.out.below Bu0.out))))
                  | (at_builtin; refine wpList_append_w (by rfl) _ _ _ (by rfl) w5.heap.size 33 ic (.agg #[.int .i64 0, .int .i64 0, .int .i64 0, .string ⟨#[]⟩]) 4 40 under_cells hic hc0 hc1 hc2 (by rfl) (by decide) (.slice au0 (1 + m.length) cu0) (1 + m.length) ((ceL [blkCe 0 2]) ++ ceL m) (by rfl) Ou0.out sa2 m.length sc2 (ceL m) (by rfl) (ceL_length _) (Su0.out) (ceL_one) (by simp only [maxLen]; omega) (by omega) zu0 ?_; intro vu1 wu1 hou1 hgu1 hbu1; obtain ⟨au1, cu1, rfl⟩ := owns_slice hou1; have Ou1 := Lib.hid hou1; have Bu1 := Lib.hid (Bu0.out.trans ((grown_upon hgu1).belowB Bu0.out.size (fun k e => (Ou0.out.lt k e).1))); have zu1 : w5.heap.size ≤ wu1.heap.size := Bu1.out.size; clear hou1 hgu1 hbu1; have Tu := Lib.hid (show rdAt (fun _ => False) wu1 (.slice au1 ((1 + m.length) + m.length) cu1) (blkCe 0 2 :: (m ++ m)).length (ceL (blkCe 0 2 :: (m ++ m))) by { have h := rdAt.of_owns (S := fun _ => False) Ou1.out (fun _ _ h => h); rw [show (((ceL [blkCe 0 2]) ++ ceL m) ++ ceL m) = ceL (blkCe 0 2 :: (m ++ m)) by simp [ceL]] at h; rwa [show (blkCe 0 2 :: (m ++ m)).length = ((1 + m.length) + m.length) by (simp; omega)] }); have K6 := Lib.hid (St.add (Q := fun W => rdAt (fun _ => False) W (.slice au1 ((1 + m.length) + m.length) cu1) (blkCe 0 2 :: (m ++ m)).length (ceL (blkCe 0 2 :: (m ++ m)))) (K5.out.on Bu1.out) Tu.out (fun _ _ h hb => rdAt.below h hb)); clear Tu hWu; obtain ⟨Wl, hWl⟩ : ∃ W, wu1.alloc (.cells #[.int .i64 1, .int .i64 1, .int .i64 2, .string ⟨#[]⟩] 33) = W := ⟨_, rfl⟩; have Bl := Lib.hid (show Below wu1.heap.size wu1 Wl by { rw [← hWl]; exact bl_alloc (Below.refl _ _) _ }); have Ol := Lib.hid (show Wl.ownsRow wu1.heap.size 33 4 (.slice (some ⟨wu1.heap.size, 0, none⟩) 1 1) 1 (ceL [blkCe 1 2]) by { rw [← hWl]; exact own_blk (c := blkCe 1 2) }); have Sl := Lib.hid (rd_src (HM.out.below (bl_call K6.out.below Bl.out))); have zl : wu1.heap.size ≤ Wl.heap.size := Bl.out.size)
                  | (at_builtin; refine wpList_append_w (by rfl) _ _ _ (by rfl) wu1.heap.size 33 ic (.agg #[.int .i64 0, .int .i64 0, .int .i64 0, .string ⟨#[]⟩]) 4 40 under_cells hic hc0 hc1 hc2 (by rfl) (by decide) (.slice (some ⟨wu1.heap.size, 0, none⟩) 1 1) 1 (ceL [blkCe 1 2]) (by rfl) Ol.out sa2 m.length sc2 (ceL m) (by rfl) (ceL_length _) (Sl.out) (ceL_one) (by simp only [maxLen]; omega) (by omega) zl ?_; intro vl0 wl0 hol0 hgl0 hbl0; obtain ⟨al0, cl0, rfl⟩ := owns_slice hol0; have Ol0 := Lib.hid hol0; have Bl0 := Lib.hid (Bl.out.trans ((grown_upon hgl0).belowB Bl.out.size (fun k e => (Ol.out.lt k e).1))); have zl0 : wu1.heap.size ≤ wl0.heap.size := Bl0.out.size; clear hol0 hgl0 hbl0; obtain ⟨Vl0, hVl0⟩ : ∃ W, wl0.alloc (.cells #[.int .i64 0, .int .i64 0, .int .i64 0, .string ⟨#[]⟩] 33) = W := ⟨_, rfl⟩; have BV := Lib.hid (show Below wl0.heap.size wl0 Vl0 by { rw [← hVl0]; exact bl_alloc (Below.refl _ _) _ }); have OV := Lib.hid (owns_below Ol0.out BV.out (fun q hq => (Ol0.out.lt q hq).2)); have SV := Lib.hid (rd_src (rd_rowF (n := 1) (show rowAt Vl0 wl0.heap.size 33 (ceL [numCe 0]) by { rw [← hVl0]; exact rowAt.made _ _ _ }))); have BVV := Lib.hid (bl_call Bl0.out BV.out); have zV : wu1.heap.size ≤ Vl0.heap.size := BVV.out.size)
                  | (at_builtin; refine wpList_append_w (by rfl) _ _ _ (by rfl) wu1.heap.size 33 ic (.agg #[.int .i64 0, .int .i64 0, .int .i64 0, .string ⟨#[]⟩]) 4 40 under_cells hic hc0 hc1 hc2 (by rfl) (by decide) (.slice al0 (1 + m.length) cl0) (1 + m.length) ((ceL [blkCe 1 2]) ++ ceL m) (by rfl) OV.out (some ⟨wl0.heap.size, 0, none⟩) 1 1 (ceL [numCe 0]) (by rfl) (ceL_length _) (SV.out) (ceL_one) (by simp only [maxLen]; omega) (by omega) zV ?_; intro vl1 wl1 hol1 hgl1 hbl1; obtain ⟨al1, cl1, rfl⟩ := owns_slice hol1; have Ol1 := Lib.hid hol1; have Bl1 := Lib.hid (BVV.out.trans ((grown_upon hgl1).belowB BVV.out.size (fun k e => (OV.out.lt k e).1))); have zl1 : wu1.heap.size ≤ wl1.heap.size := Bl1.out.size; clear hol1 hgl1 hbl1; have Tl := Lib.hid (show rdAt (fun _ => False) wl1 (.slice al1 ((1 + m.length) + 1) cl1) (blkCe 1 2 :: (m ++ [numCe 0])).length (ceL (blkCe 1 2 :: (m ++ [numCe 0]))) by { have h := rdAt.of_owns (S := fun _ => False) Ol1.out (fun _ _ h => h); rw [show (((ceL [blkCe 1 2]) ++ ceL m) ++ ceL [numCe 0]) = ceL (blkCe 1 2 :: (m ++ [numCe 0])) by simp [ceL]] at h; rwa [show (blkCe 1 2 :: (m ++ [numCe 0])).length = ((1 + m.length) + 1) by (simp; omega)] }); have K7 := Lib.hid (St.add (Q := fun W => rdAt (fun _ => False) W (.slice al1 ((1 + m.length) + 1) cl1) (blkCe 1 2 :: (m ++ [numCe 0])).length (ceL (blkCe 1 2 :: (m ++ [numCe 0])))) (K6.out.on Bl1.out) Tl.out (fun _ _ h hb => rdAt.below h hb)); clear Tl hWl; obtain ⟨Wc, hWc⟩ : ∃ W, wl1.alloc (.cells #[.int .i64 1, .int .i64 1, .int .i64 1, .string ⟨#[]⟩] 33) = W := ⟨_, rfl⟩; have Bc := Lib.hid (show Below wl1.heap.size wl1 Wc by { rw [← hWc]; exact bl_alloc (Below.refl _ _) _ }); have Oc := Lib.hid (show Wc.ownsRow wl1.heap.size 33 4 (.slice (some ⟨wl1.heap.size, 0, none⟩) 1 1) 1 (ceL [blkCe 1 1]) by { rw [← hWc]; exact own_blk (c := blkCe 1 1) }); have Sc := Lib.hid (rd_src (HM.out.below (bl_call K7.out.below Bc.out))); have zc : wl1.heap.size ≤ Wc.heap.size := Bc.out.size)
                  | (at_builtin; refine wpList_append_w (by rfl) _ _ _ (by rfl) wl1.heap.size 33 ic (.agg #[.int .i64 0, .int .i64 0, .int .i64 0, .string ⟨#[]⟩]) 4 40 under_cells hic hc0 hc1 hc2 (by rfl) (by decide) (.slice (some ⟨wl1.heap.size, 0, none⟩) 1 1) 1 (ceL [blkCe 1 1]) (by rfl) Oc.out sa2 m.length sc2 (ceL m) (by rfl) (ceL_length _) (Sc.out) (ceL_one) (by simp only [maxLen]; omega) (by omega) zc ?_; intro vc0 wc0 hoc0 hgc0 hbc0; obtain ⟨ac0, cc0, rfl⟩ := owns_slice hoc0; have Oc0 := Lib.hid hoc0; have Bc0 := Lib.hid (Bc.out.trans ((grown_upon hgc0).belowB Bc.out.size (fun k e => (Oc.out.lt k e).1))); have zc0 : wl1.heap.size ≤ wc0.heap.size := Bc0.out.size; clear hoc0 hgc0 hbc0; have Tc := Lib.hid (show rdAt (fun _ => False) wc0 (.slice ac0 (1 + m.length) cc0) (blkCe 1 1 :: m).length (ceL (blkCe 1 1 :: m)) by { have h := rdAt.of_owns (S := fun _ => False) Oc0.out (fun _ _ h => h); rw [show ((ceL [blkCe 1 1]) ++ ceL m) = ceL (blkCe 1 1 :: m) by simp [ceL]] at h; rwa [show (blkCe 1 1 :: m).length = (1 + m.length) by (simp; omega)] }); have K8 := Lib.hid (St.add (Q := fun W => rdAt (fun _ => False) W (.slice ac0 (1 + m.length) cc0) (blkCe 1 1 :: m).length (ceL (blkCe 1 1 :: m))) (K7.out.on Bc0.out) Tc.out (fun _ _ h hb => rdAt.below h hb)); clear Tc hWc))
                obtain ⟨w8, hw8⟩ : ∃ W, wc0 = W := ⟨_, rfl⟩
                rw [hw8] at K8 ⊢
                have A4 := Lib.hid (show fitsB (mo f k) ((f.length : Int) + 1) _ = F from FN.out.a4)
                have A5 := Lib.hid (show fitsB (mo f k) ((f.length : Int) + 2) _ = F from FN.out.a5)
                have A6 := Lib.hid (show fitsB (mo f k) ((f.length : Int) + 1) _ = true from FN.out.a6)
                have A7 := Lib.hid (show fitsB (mo f k) ((f.length : Int) + 2) _ = true from FN.out.a7)
                have A8 := Lib.hid (show fitsB (mo f k) ((f.length : Int) + 2) _ = false from FN.out.a8)
                go_wp2_with fail
                refine (fits_is FN.out.a2 (HT.out.below K8.out.below) K8.out.p.1.1.1 MF.out ML.out (HM.out.below K8.out.below)).mono ?_
                rintro e w9 ⟨rfl, hb⟩
                have K9 := Lib.hid (K8.out.on hb)
                clear hb
                go_wp2_with fail
                refine (fits_is FN.out.a3 (HT.out.below K9.out.below) K9.out.p.1.1.1 MF.out ML.out (K9.out.p.1.1.2)).mono ?_
                rintro e w10 ⟨rfl, hb⟩
                have K10 := Lib.hid (K9.out.on hb)
                clear hb
                go_wp2_with fail
                refine (fits_is A4.out (HT.out.below K10.out.below) K10.out.p.1.1.1 MF.out ML.out (K10.out.p.1.2)).mono ?_
                rintro e w11 ⟨rfl, hb⟩
                have K11 := Lib.hid (K10.out.on hb)
                clear hb
                go_wp2_with fail
                refine (fits_is A5.out (HT.out.below K11.out.below) K11.out.p.1.1.1 MF.out ML.out (K11.out.p.2)).mono ?_
                rintro e w12 ⟨rfl, hb⟩
                have K12 := Lib.hid (K11.out.on hb)
                clear hb
                go_wp2_with fail
                have KA := Lib.hid (K12.out.on (bl_alloc (Below.refl _ _) (.cells #[.int .i64 0, .int .i64 0, .int .i64 0, .string ⟨#[]⟩] 33)))
                refine (fits_is A6.out (HT.out.below KA.out.below) KA.out.p.1.1.1 MF.out ML.out (one_rd 0)).mono ?_
                rintro e w13 ⟨rfl, hb⟩
                have K13 := Lib.hid (KA.out.on hb)
                clear hb KA
                go_wp2_with fail
                have KA := Lib.hid (K13.out.on (bl_alloc (Below.refl _ _) (.cells #[.int .i64 0, .int .i64 0, .int .i64 0, .string ⟨#[]⟩] 33)))
                refine (fits_is A7.out (HT.out.below KA.out.below) KA.out.p.1.1.1 MF.out ML.out (one_rd 0)).mono ?_
                rintro e w14 ⟨rfl, hb⟩
                have K14 := Lib.hid (KA.out.on hb)
                clear hb KA
                go_wp2_with fail
                have KA := Lib.hid (K14.out.on (bl_alloc (Below.refl _ _) (.cells #[.int .i64 0, .int .i64 0, .int .i64 1, .string ⟨#[]⟩] 33)))
                refine (fits_is A8.out (HT.out.below KA.out.below) KA.out.p.1.1.1 MF.out ML.out (one_rd 1)).mono ?_
                rintro e w15 ⟨rfl, hb⟩
                have K15 := Lib.hid (KA.out.on hb)
                clear hb KA
                go_wp2_with fail
                have KA := Lib.hid (K15.out.on (bl_alloc (Below.refl _ _) (.cells #[.int .i64 0, .int .i64 0, .int .i64 0, .string ⟨#[]⟩] 33)))
                refine (fits_is FN.out.a9 (HT.out.below KA.out.below) KA.out.p.1.1.1 MF.out ML.out (one_rd 0)).mono ?_
                rintro e w16 ⟨rfl, hb⟩
                have K16 := Lib.hid (KA.out.on hb)
                clear hb KA
                go_wp2_with fail
                obtain ⟨cc, mt, hmc⟩ : ∃ c t, m = c :: t := by
                  cases m with
                  | nil => exact absurd rfl (goodMs_ne G1.out)
                  | cons c t => exact ⟨c, t, rfl⟩
                obtain ⟨kc, hkc⟩ : ∃ kc, cc.1 = kc := ⟨_, rfl⟩
                obtain ⟨mb, mq, rfl, hmb, hm0⟩ : ∃ b o, sa2 = some ⟨b, o, none⟩ ∧ b < w.heap.size ∧ w.cell? ⟨b, o, none⟩ = some (.int .i64 kc) := by
                  obtain ⟨a, c, e, h⟩ := HM.out
                  injection e with e1 e2 e3
                  subst e1
                  rcases h with h | ⟨b, o, h1, _, h3, h4⟩
                  · rw [hmc] at h; cases h
                  · exact ⟨b, o, h1, h3, by rw [← hkc]; exact h4 0 _ (by rw [hmc]; rfl)⟩
                have CM := Lib.hid (show ∀ W, Below w.heap.size w W → W.cell? ⟨mb, mq, none⟩ = some (.int .i64 kc) from fun W hb => (hb.cell (p := ⟨mb, mq, none⟩) hmb).trans hm0)
                obtain ⟨b1, hb1⟩ : ∃ b, (kc == 0) = b := ⟨_, rfl⟩
                obtain ⟨b4, hb4⟩ : ∃ b, (kc == 2) = b := ⟨_, rfl⟩
                have FK1 := Lib.hid (show fitsB [((1, 0, 0, []) : PFm)] 0 m = b1 by rw [← hb1, ← hkc]; have h := G1.out; rw [hmc] at h ⊢; exact fits_kind (t := 1) (.inl rfl) h)
                have FK4 := Lib.hid (show fitsB [((4, 0, 0, []) : PFm)] 0 m = b4 by rw [← hb4, ← hkc]; have h := G1.out; rw [hmc] at h ⊢; exact fits_kind (t := 4) (.inr rfl) h)
                have ml1 : 0 < m.length := by rw [hmc]; simp only [List.length_cons]; omega
                have ml0 : (0 : Int) < (m.length : Int) := by omega
                have ml2 : ¬ m = [] := by rw [hmc]; simp
                clear hmc hkc hmb hm0
                have A1 := Lib.hid (K16.out.on (bl_alloc (Below.refl _ _) (.cells #[.int .i64 1, .int .i64 0, .int .i64 0, .slice none 0 0] 30)))
                have A1d := Lib.hid (A1.out.on (bl_drew (Below.refl _ _)))
                have A0d := Lib.hid (K16.out.on (bl_drew (Below.refl _ _)))
                have S0 := Lib.hid (show (fun w' => w'.cell? ⟨mb, mq, none⟩ = some (.int .i64 kc)) (w16) from CM.out _ K16.out.below)
                have S0d := Lib.hid (show (fun w' => w'.cell? ⟨mb, mq, none⟩ = some (.int .i64 kc)) (w16.drew) from CM.out _ A0d.out.below)
                have S1 := Lib.hid (show (fun w' => w'.cell? ⟨mb, mq, none⟩ = some (.int .i64 kc)) (w16.alloc (.cells #[.int .i64 1, .int .i64 0, .int .i64 0, .slice none 0 0] 30)) from CM.out _ A1.out.below)
                have S1d := Lib.hid (show (fun w' => w'.cell? ⟨mb, mq, none⟩ = some (.int .i64 kc)) ((w16.alloc (.cells #[.int .i64 1, .int .i64 0, .int .i64 0, .slice none 0 0] 30)).drew) from CM.out _ A1d.out.below)
                have C1 := Lib.hid (show Calls Tryz.prog 9 #[.slice (some ⟨w16.heap.size, 0, none⟩) 1 1, .int .i64 0, .slice (some ⟨mb, mq, none⟩) m.length sc2] (w16.alloc (.cells #[.int .i64 1, .int .i64 0, .int .i64 0, .slice none 0 0] 30)).drew fun e w' => e = .returned (.bool b1) ∧ Below (w16.alloc (.cells #[.int .i64 1, .int .i64 0, .int .i64 0, .slice none 0 0] 30)).drew.heap.size (w16.alloc (.cells #[.int .i64 1, .int .i64 0, .int .i64 0, .slice none 0 0] 30)).drew w' from fits_is FK1.out (HT.out.below A1d.out.below) (one_fms ((rowAt.made w16 30 [.int .i64 1, .int .i64 0, .int .i64 0, .slice none 0 0]).drew)) (one_fit (.inl rfl)) (by decide) (HM.out.below A1d.out.below))
                go_region_held3 (fun w' => w'.cell? ⟨mb, mq, none⟩ = some (.int .i64 kc))
                  (first | with_reducible exact S0.out | with_reducible exact S0d.out | with_reducible exact S1.out | with_reducible exact S1d.out | with_reducible exact S7.out | with_reducible exact S8.out | with_reducible exact S9.out | with_reducible exact S10.out)
                  (first
                  | (go_at_call 9
                     with_reducible refine (C1.out).mono ?_
                     rintro e w17 ⟨rfl, hb⟩
                     have K17 := Lib.hid (A1d.out.on hb)
                     have A4 := Lib.hid (K17.out.on (bl_alloc (Below.refl _ _) (.cells #[.int .i64 4, .int .i64 0, .int .i64 0, .slice none 0 0] 30)))
                     have S7 := Lib.hid (show (fun w' => w'.cell? ⟨mb, mq, none⟩ = some (.int .i64 kc)) (w17) from CM.out _ K17.out.below)
                     have S8 := Lib.hid (show (fun w' => w'.cell? ⟨mb, mq, none⟩ = some (.int .i64 kc)) (w17.alloc (.cells #[.int .i64 4, .int .i64 0, .int .i64 0, .slice none 0 0] 30)) from CM.out _ A4.out.below)
                     have C2 := Lib.hid (show Calls Tryz.prog 9 #[.slice (some ⟨w17.heap.size, 0, none⟩) 1 1, .int .i64 0, .slice (some ⟨mb, mq, none⟩) m.length sc2] (w17.alloc (.cells #[.int .i64 4, .int .i64 0, .int .i64 0, .slice none 0 0] 30)) fun e w' => e = .returned (.bool b4) ∧ Below (w17.alloc (.cells #[.int .i64 4, .int .i64 0, .int .i64 0, .slice none 0 0] 30)).heap.size (w17.alloc (.cells #[.int .i64 4, .int .i64 0, .int .i64 0, .slice none 0 0] 30)) w' from fits_is FK4.out (HT.out.below A4.out.below) (one_fms (rowAt.made w17 30 [.int .i64 4, .int .i64 0, .int .i64 0, .slice none 0 0])) (one_fit (.inr rfl)) (by decide) (HM.out.below A4.out.below))
                     clear hb)
                  | (go_at_call 9
                     with_reducible refine (C2.out).mono ?_
                     rintro e w18 ⟨rfl, hb⟩
                     have K18 := Lib.hid (A4.out.on hb)
                     have S9 := Lib.hid (show (fun w' => w'.cell? ⟨mb, mq, none⟩ = some (.int .i64 kc)) (w18) from CM.out _ K18.out.below)
                     clear hb)
                  | (go_at_call 8
                     with_reducible refine (dwakes_any w18 (HT.out.below K18.out.below)).mono ?_
                     rintro e w19 ⟨rfl, hb⟩
                     have K19 := Lib.hid (K18.out.on hb)
                     have S10 := Lib.hid (show (fun w' => w'.cell? ⟨mb, mq, none⟩ = some (.int .i64 kc)) (w19) from CM.out _ K19.out.below)
                     clear hb))
                all_goals
                  go_wp2_with fail
                  go_ret
                  exact ⟨rfl, K19.out.below⟩
    · skip
      go_wp2_with fail
      refine (dwakes_any _ (HT.out.below B1.out)).mono ?_
      rintro e wz ⟨rfl, hb⟩
      have BZ := Lib.hid (bl_call B1.out hb)
      clear hb
      go_wp2_with fail
      go_ret
      exact ⟨rfl, BZ.out⟩

theorem contract (H : Type) (enc : TypeId × Value → H) (W : World) (base : Nat) (args : Array Value) (ds gs : List (DataW H)) (before : List MemPlace)
    (hval0 : ∀ (j : Nat) t v, Tryz.f3.params[j]? = some t → args[j]? = some v → Value.okWide Tryz.prog W .any base t v)
    (hW : DataW.Whole enc Tryz.prog Tryz.f3.params.toList Rows.dataFitsSpec.vars false W args.toList ds gs before)
    (T : OpTab W)
    (hz : (DataW.weightsEach Tryz.prog (Tryz.f3.params.toList ++ Rows.dataFitsSpec.plain.varTypes Tryz.prog) (ds ++ gs)).all (· ≤ reachBytes) = true) :
    Calls Tryz.prog 3 args W fun e W' => ∃ v, e = .returned v ∧ Rows.dataFitsSpec.post enc Tryz.prog Tryz.f3 false true false false W args v W' := by
  have hW' := hW
  have hval := hval0
  obtain ⟨p, q, hA0, hV, rfl, hfz, hnd⟩ := hW
  have hA : DataW.TrodAll enc Tryz.prog W 0 (fun _ => true) true Tryz.f3.params.toList args.toList ds p := hA0
  rw [Tryz.params3] at hA hval
  obtain ⟨rfl, rfl⟩ := trodVars_none hV
  have wb : ∀ (j : Nat) (t : TypeId) (d : DataW H), Tryz.f3.params[j]? = some t → ds[j]? = some d → WB Tryz.prog t d := fun j t d ht hd => wb_of hz (by simpa using ht) hd
  rw [Tryz.params3] at wb
  obtain ⟨v0, vs0, d0, ds0, p0, q0, hargs, rfl, rfl, h0, r0⟩ := trodAll_cons hA
  obtain ⟨v1, vs1, d1, ds1, p1, q1, rfl, rfl, rfl, h1, r1⟩ := trodAll_cons r0
  obtain ⟨v2, vs2, d2, ds2, p2, q2, rfl, rfl, rfl, h2, r2⟩ := trodAll_cons r1
  obtain ⟨rfl, rfl, rfl⟩ := trodAll_nil r2
  obtain rfl : args = #[v0, v1, v2] := by cases args; simp_all
  obtain ⟨sa0, sc0, f0, rfl, hc0, hr0, hf0, hl0, hn0⟩ := open_forms (wb 0 _ _ rfl rfl) (hval 0 22 v0 rfl rfl) h0
  obtain ⟨a1, rfl, rfl, rfl, w1⟩ := open_int Tryz.underlying3 (hval 1 3 v1 rfl rfl) h1
  obtain ⟨sa2, sc2, m2, rfl, hc2, hr2, hl2⟩ := open_msg (wb 2 _ _ rfl rfl) (hval 2 24 v2 rfl rfl) h2
  refine (walk sa0 sc0 f0 a1 sa2 sc2 m2 W hc0 hr0 hf0 hl0 hn0 w1 hc2 hr2 hl2 T).mono fun e W' ⟨he, hb⟩ => ?_
  subst he
  exact ⟨_, rfl, law_post laidOut (by kernel_rfl) rfl (by kernel_rfl) Tryz.underlying4 hW' rfl rfl rfl hb⟩

theorem door_met (os : Os) (args : Array Value) : laidMetH Tryz.prog Rows.dataFitsRow.laid ((World.doorLaid Tryz.prog 200 os).forCall (fun _ _ => 0) ⟨#[], args, []⟩).memory :=
  laidMetH_of_parts3 (fuel := 8) (laidMet_of_run' 8 (by kernel_rfl) (by kernel_rfl)) (by kernel_rfl) (by kernel_rfl)

set_option maxRecDepth 100000 in
theorem lifted (os : Os) (started : os.Started) (H : Type) (enc : TypeId × Value → H) :
    ReturnsInHanded {} Tryz.checked os 3 .any (fun w args => (Rows.dataFitsSpec.pre enc Tryz.prog Tryz.f3 [] false w args ∧ laidMetH Tryz.prog Rows.dataFitsRow.laid w) ∧ sizedMet enc Tryz.prog Tryz.f3 (OpenSpec.ofChange Rows.dataFitsSpec) false w args)
      (Rows.dataFitsSpec.post enc Tryz.prog Tryz.f3 false true false false) := by
  refine returnsInHanded_of_change_and (C := Tryz.checked) (X := fun w _ => laidMetH Tryz.prog Rows.dataFitsRow.laid w) (fun _ _ _ hh h => h.of_heap hh) own started (by kernel_rfl) Tryz.func3
    (ChangeSpec.witness_shaped (enc := enc) (C := Tryz.checked) (os := os) (X := fun w _ => laidMetH Tryz.prog Rows.dataFitsRow.laid w) false (World.doorLaid Tryz.prog 200 os) #[.slice none 0 0, .int .i64 0, .slice none 0 0] 8 rfl (World.shaped_of_RefB (by kernel_rfl) (by kernel_rfl)) (by kernel_rfl) (by kernel_rfl) (by kernel_rfl) (door_met os _)) ?_
  intro W base args ds gs before hval hW _ hz hL _
  exact contract H enc W base args ds gs before hval hW (optab_of (laid_lies (by kernel_rfl) hL _ _ (List.Mem.head _)) (laid_lies (by kernel_rfl) hL _ _ (List.Mem.tail _ (List.Mem.head _))) (laid_lies (by kernel_rfl) hL _ _ (List.Mem.tail _ (List.Mem.tail _ (List.Mem.head _))))) hz

theorem over : Rows.dataFitsRow.holds Tryz.pinned (OpenSpec.ofChange Rows.dataFitsSpec) :=
  OpenClaim.holds_of_wide 3 Tryz.f3 rfl rfl rfl rfl rfl rfl rfl ⟨rfl, rfl, rfl, rfl, rfl⟩ rfl rfl rfl rfl rfl (by kernel_rfl) Tryz.func3 (by kernel_rfl)
    (of_decide_eq_true (by kernel_rfl)) (by unfold Func.isWrapper; first | (rw [if_pos (by decide +kernel)]; kernel_rfl) | (rw [if_neg (by decide +kernel)]; exact ⟨rfl, rfl⟩))
    (fun os started H enc _ => lifted os started H enc)

theorem proved : Rows.DataFitsCardSaid :=
  Claim7.holds_tied_plain_at .later [] [.data, .data, .data] true _ false
    over (fun _ h => by cases h) (by kernel_rfl) (fun _ h => by cases h) dataFits_row_tie rfl ⟨rfl, rfl⟩ (by kernel_rfl) rfl
    (fun f fn hf hfn => by
      obtain rfl : f = 3 := Option.some.inj ((show Tryz.prog.funcNamed "stockpot/stockpotlaw10.DataFits" = some 3 by kernel_rfl).symm.trans hf) |>.symm
      obtain rfl : fn = Tryz.f3 := (Option.some.inj (Tryz.func3.symm.trans hfn)).symm
      exact ⟨by kernel_rfl, fun j t ht => by
        have hall : (Tryz.f3.params.toList.all fun u => !Tryz.prog.wantsStandIn u) = true := by kernel_rfl
        exact (show Tryz.prog.wantsStandIn t = false by simpa using List.all_eq_true.1 hall t (by simpa using Array.mem_of_getElem? ht))⟩)
    (by kernel_rfl)
#print axioms proved
end Go.Proofs.YtajkkinolpkfmaaGreatDoor.dataFits
