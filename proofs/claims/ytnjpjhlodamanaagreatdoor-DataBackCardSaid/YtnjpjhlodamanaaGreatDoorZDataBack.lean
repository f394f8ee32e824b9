/-
  Layer 10's wakes: its message, the state of its memory.
  Conditions: as each states.
-/
import Derived.Test.YtnjpjhlodamanaaGreatDoorZDv
import Derived.Test.YtnjpjhlodamanaaGreatDoorZDz
import Derived.Test.YtnjpjhlodamanaaGreatDoorLay
import Derived.Deep.DeepCutAuto
import Derived.Deep.CutBlock
import Derived.Test.YtnjpjhlodamanaaGreatDoorZArgsR
import Derived.Test.YtnjpjhlodamanaaGreatDoorTie
import Derived.Test.YtnjpjhlodamanaaGreatDoorCards
import Derived.SevenTiedAt
import Derived.LaidMore
import Derived.Stop.Joined
import Derived.Deep.RegionHeld3
namespace Go.Proofs.YtnjpjhlodamanaaGreatDoor
set_option linter.unusedVariables false
set_option linter.unusedSimpArgs false
open Go.ChangeShapes Go.WideShapes Go.ChangeAt Go.RowKit
set_option maxRecDepth 100000

theorem dIn_any {w : World} {p : Nat} {F : Nat → Prop} {A : Ar} (hA : Held w p F A) (base half space top : Int) {a : Option Addr} {cap : Nat} {m : List PCe} (hr : rdAt F w (.slice a m.length cap) m.length (ceL m)) (hcap : m.length ≤ cap) :
    Calls Tryz.prog 10 #[.pointer (some ⟨p, 0, none⟩), heapV base half space top, .slice a m.length cap] w (InT A base half space top m p F w) := by
  cases ho : A.objs base half space top with
  | none => exact in_heap hA base half space top hr ho
  | some obs =>
    cases hg : goodMs m with
    | false => exact in_msg hA base half space top hr (by rw [ho]; rfl) hg
    | true =>
      by_cases hw : (wordsM m : Int) ≤ half - top
      · exact in_good hA base half space top hr hcap ho hg hw
      · obtain ⟨h1, h2, h3, h4, h5⟩ := objs_top hA.ok ho
        exact in_room hA base half space top hr (by rw [ho]; rfl) hg (by omega) (by rw [IntKind.wrap_i64]; omega)
def abText : ByteArray := ⟨#[97, 98]⟩
def oneM : List PCe := [blkCe 1 2, numCe 1, blkCe 1 2, strCe abText, numCe 0]
def twoM : List PCe := [blkCe 1 2, numCe 1, numCe 0]
def wakF : List PFm := [(6, 1, 0, []), (1, 0, 0, [])]
theorem one_good : goodMs oneM = true := by decide +kernel
theorem one_words : wordsM oneM = 8 := by decide +kernel
theorem one_tail : goodMs oneM.tail = false := by decide +kernel
theorem two_good : goodMs twoM = true := by decide +kernel
theorem wak_forms : rfmsG wakF = true := by decide +kernel
theorem wak_yes : fitL wakF [0] twoM = true := by decide +kernel
theorem wak_no : fitL wakF [0] oneM = false := by decide +kernel
def dA0 : Ar := Ar.laid (List.replicate 20 0)
theorem dA0_objs : dA0.objs 3 10 0 0 = some [] := by kernel_rfl
theorem one_any (w : World) : Calls Tryz.prog 18 #[] w fun e w' => e = .returned (.slice (some ⟨w.heap.size, 0, none⟩) 5 5) ∧ rowAt w' w.heap.size 51 (ceL oneM) ∧ Below w.heap.size w w' := by
  go_enter Tryz.func18, Tryz.ntmps18
  go_wp2_with fail
  go_ret
  exact ⟨rfl, rowAt.made _ _ _, bl_alloc (Below.refl _ _) _⟩
theorem row_rd {F : Nat → Prop} {w : World} {g n c : Nat} {T : TypeId} {cs : List Value} (h : rowAt w g T cs) (hF : ¬ F g) : rdAt F w (.slice (some ⟨g, 0, none⟩) n c) n cs :=
  ⟨_, _, rfl, .inr ⟨g, 0, rfl, hF, h.lt, fun j u hj => by rw [h.cell, Nat.zero_add]; exact hj⟩⟩
structure Wd (w : World) (p p2 b1 : Nat) (F : Nat → Prop) (A : Ar) (W : World) : Prop where
  held : Held W p F A
  two : rowAt W b1 33 [.pointer (some ⟨p, 0, none⟩), .pointer (some ⟨p2, 0, none⟩)]
  nb : ¬ F b1
  lo : w.heap.size ≤ b1
  fl : ∀ k, F k → w.heap.size ≤ k
  below : Below w.heap.size w W
section
variable {w : World} {p p2 b1 : Nat} {F : Nat → Prop} {A A' : Ar} {W W' : World}
theorem Wd.on (h : Wd w p p2 b1 F A W) (hb : Below W.heap.size W W') : Wd w p p2 b1 F A W' := ⟨h.held.below hb, h.two.below hb h.two.lt, h.nb, h.lo, h.fl, bl_call h.below hb⟩
theorem Wd.step (h : Wd w p p2 b1 F A W) (hs : Step F F W W') (hh : Held W' p F A') : Wd w p p2 b1 F A' W' :=
  ⟨hh, h.two.upon hs.upon h.nb, h.nb, h.lo, h.fl, h.below.trans (hs.upon.belowB h.below.size h.fl)⟩
end
/-- What the first In of wakes comes to. -/
theorem wak_in {A : Ar} {w : World} {p : Nat} {F : Nat → Prop} {e : Ending} {w' : World} (hA : A.objs 3 10 0 0 = some []) (h : InT A 3 10 0 0 oneM p F w e w') :
    Step F F w w' ∧ ∃ A1 X, e = .returned (.tuple #[heapV 3 10 0 8, .int .u64 0, .bool true]) ∧ Held w' p F A1 ∧ A1.objs 3 10 0 8 = some X ∧ outP 0 X 100 [0] = some oneM := by
  obtain ⟨hs, h⟩ := h
  refine ⟨hs, ?_⟩
  rcases h with ⟨obs, A', X, w0, h1, h2, h3, h4, h5, h6, h7, h8, c, r, h9, h10⟩ | ⟨h1, _⟩
  · rw [hA] at h1
    cases h1
    have e1 : w0 = 0 := by
      rw [h10]
      have : c = blkCe 1 2 := by unfold oneM at h9; exact (List.cons.inj h9).1.symm
      rw [this]
      rfl
    subst e1
    rw [one_words] at h4 h6
    refine ⟨A', X, by rw [h4]; rfl, h5, by simpa using h6, ?_⟩
    rw [outP_iff]
    exact ⟨by simpa using h7, by decide⟩
  · rw [hA, one_good, one_words] at h1
    cases h1
theorem wak_in2 {A : Ar} {X : List Ob} {w : World} {p : Nat} {F : Nat → Prop} {e : Ending} {w' : World} (hA : A.objs 3 10 0 8 = some X) (h : InT A 3 10 0 8 oneM p F w e w') :
    Step F F w w' ∧ e = .returned (.tuple #[heapV 0 0 0 0, .int .u64 0, .bool false]) ∧ Held w' p F A := by
  obtain ⟨hs, h⟩ := h
  refine ⟨hs, ?_⟩
  rcases h with ⟨obs, A', X, w0, h1, h2, h3, h4⟩ | ⟨h1, h2, h3⟩
  · rw [one_words] at h3
    omega
  · exact ⟨h2, h3⟩
/-- Behind the first In. -/
def CutW (w : World) (p p2 b1 : Nat) (F : Nat → Prop) (v4 v5 v6 : Value) (wx : World) : Prop :=
  ∃ hb A1 X, v4 = .pointer (some ⟨hb, 0, none⟩) ∧ v5 = .int .u64 0 ∧ v6 = .bool true ∧ Wd w p p2 b1 F A1 wx ∧ rowAt wx hb 24 [.int .i64 3, .int .i64 10, .int .i64 0, .int .i64 8] ∧ ¬ F hb ∧ A1.objs 3 10 0 8 = some X ∧ outP 0 X 100 [0] = some oneM
/-- Behind the second one. -/
def CutX (V w : World) (p p2 b1 : Nat) (F : Nat → Prop) (hb : Nat) (A1 : Ar) (v9 v10 v11 : Value) (wx : World) : Prop :=
  Upon F V wx ∧ ∃ gb, v9 = .pointer (some ⟨gb, 0, none⟩) ∧ v10 = .int .u64 0 ∧ v11 = .bool false ∧ Wd w p p2 b1 F A1 wx ∧ rowAt wx hb 24 [.int .i64 3, .int .i64 10, .int .i64 0, .int .i64 8] ∧ rowAt wx gb 24 [.int .i64 0, .int .i64 0, .int .i64 0, .int .i64 0]
theorem Wd.set {w : World} {p p2 b1 zb : Nat} {F : Nat → Prop} {A : Ar} {W : World} (h : Wd w p p2 b1 F A W) (hF : ¬ F zb) (hb : b1 ≠ zb) (hl : w.heap.size ≤ zb) {a c d e : Value} :
    Wd w p p2 b1 F A ((((W.setCell ⟨zb, 0, none⟩ a).setCell ⟨zb, 1, none⟩ c).setCell ⟨zb, 2, none⟩ d).setCell ⟨zb, 3, none⟩ e) := by
  have hu : Upon (fun k => k = zb) W _ := upon_set4 (S := fun k => k = zb) (w := W) (b := zb) rfl (a := a) (c := c) (d := d) (e := e)
  exact ⟨h.held.upon hu (fun k hk e => hF (e ▸ hk)), h.two.upon hu hb, h.nb, h.lo, h.fl, h.below.trans (hu.belowB h.below.size fun k e => by omega)⟩
theorem row_set4 {W : World} {zb : Nat} {T : TypeId} {a0 c0 d0 e0 a c d e : Value} (h : rowAt W zb T [a0, c0, d0, e0]) : rowAt ((((W.setCell ⟨zb, 0, none⟩ a).setCell ⟨zb, 1, none⟩ c).setCell ⟨zb, 2, none⟩ d).setCell ⟨zb, 3, none⟩ e) zb T [a, c, d, e] :=
  (((h.set 0 a).set 1 c).set 2 d).set 3 e
theorem cutW_last {w : World} {p p2 b1 : Nat} {F : Nat → Prop} {A1 : Ar} {X : List Ob} {w4 : World} (K : Wd w p p2 b1 F A1 w4) (h1 : A1.objs 3 10 0 8 = some X) (h2 : outP 0 X 100 [0] = some oneM) :
    CutW w p p2 b1 F (.pointer (some ⟨w4.heap.size, 0, none⟩)) (.int .u64 0) (.bool true) (w4.alloc (.cells #[.int .i64 3, .int .i64 10, .int .i64 0, .int .i64 8] 24)) :=
  ⟨_, A1, X, rfl, rfl, rfl, K.on (bl_alloc (Below.refl _ _) _), rowAt.made _ _ _, fun hf => by have := K.held.lt _ hf; omega, h1, h2⟩
theorem cutW_set {w : World} {p p2 b1 zb : Nat} {F : Nat → Prop} {A1 : Ar} {X : List Ob} {w4 : World} (K : Wd w p p2 b1 F A1 w4) (h1 : A1.objs 3 10 0 8 = some X) (h2 : outP 0 X 100 [0] = some oneM) {a c d e : Value} (hz : rowAt w4 zb 24 [a, c, d, e]) (hF : ¬ F zb) (hb : b1 ≠ zb) (hl : w.heap.size ≤ zb) :
    CutW w p p2 b1 F (.pointer (some ⟨zb, 0, none⟩)) (.int .u64 0) (.bool true) ((((w4.setCell ⟨zb, 0, none⟩ (.int .i64 3)).setCell ⟨zb, 1, none⟩ (.int .i64 10)).setCell ⟨zb, 2, none⟩ (.int .i64 0)).setCell ⟨zb, 3, none⟩ (.int .i64 8)) :=
  ⟨_, A1, X, rfl, rfl, rfl, K.set hF hb hl, row_set4 hz, hF, h1, h2⟩
theorem cutX_last {V w : World} {p p2 b1 hb : Nat} {F : Nat → Prop} {A1 : Ar} {w4 : World} (K : Wd w p p2 b1 F A1 w4) (hh : rowAt w4 hb 24 [.int .i64 3, .int .i64 10, .int .i64 0, .int .i64 8]) (hU : Upon F V w4) :
    CutX V w p p2 b1 F hb A1 (.pointer (some ⟨w4.heap.size, 0, none⟩)) (.int .u64 0) (.bool false) (w4.alloc (.cells #[.int .i64 0, .int .i64 0, .int .i64 0, .int .i64 0] 24)) :=
  ⟨hU.trans (Upon.alloc F _ _) (fun _ _ h => h), _, rfl, rfl, rfl, K.on (bl_alloc (Below.refl _ _) _), hh.alloc _, rowAt.made _ _ _⟩
theorem cutX_set {V w : World} {p p2 b1 hb zb : Nat} {F : Nat → Prop} {A1 : Ar} {w4 : World} (K : Wd w p p2 b1 F A1 w4) (hh : rowAt w4 hb 24 [.int .i64 3, .int .i64 10, .int .i64 0, .int .i64 8]) {a c d e : Value} (hz : rowAt w4 zb 24 [a, c, d, e]) (hF : ¬ F zb) (hb1 : b1 ≠ zb) (hb2 : hb ≠ zb) (hl : w.heap.size ≤ zb) (hU : Upon F V w4) (hV : V.heap.size ≤ zb) :
    CutX V w p p2 b1 F hb A1 (.pointer (some ⟨zb, 0, none⟩)) (.int .u64 0) (.bool false) ((((w4.setCell ⟨zb, 0, none⟩ (.int .i64 0)).setCell ⟨zb, 1, none⟩ (.int .i64 0)).setCell ⟨zb, 2, none⟩ (.int .i64 0)).setCell ⟨zb, 3, none⟩ (.int .i64 0)) :=
  ⟨hU.trans (T := fun k => k = zb) (upon_set4 (S := fun k => k = zb) rfl) (fun i hi e => by omega), _, rfl, rfl, rfl, K.set hF hb1 hl, hh.upon (S := fun k => k = zb) (upon_set4 (S := fun k => k = zb) rfl) hb2, row_set4 hz⟩
theorem wak_out {A1 : Ar} {X : List Ob} {w w' : World} {e : Ending} (h1 : A1.objs 3 10 0 8 = some X) (h2 : outP 0 X 100 [0] = some oneM)
    (h : OutT (match A1.objs 3 10 0 8 with | some obs => outP (0 * 10) obs 100 [0] | none => none) w e w') : Below w.heap.size w w' ∧ ∃ oa oc, e = .returned (.tuple #[.slice oa 5 oc, .bool true]) ∧ w'.ownsRow w.heap.size 51 4 (.slice oa 5 oc) 5 (ceL oneM) := by
  obtain ⟨hb, h⟩ := h
  refine ⟨hb, ?_⟩
  have e1 : (match A1.objs 3 10 0 8 with | some obs => outP (0 * 10) obs 100 [0] | none => none) = some oneM := by rw [h1]; exact h2
  rcases h with ⟨m, v, h3, h4, h5⟩ | ⟨h3, _⟩
  · rw [e1] at h3
    cases h3
    obtain ⟨oa, oc, rfl⟩ := owns_slice h5
    exact ⟨oa, oc, h4, h5⟩
  · rw [e1] at h3; cases h3
theorem wakF_at {w : World} {fb cap : Nat} (h : rowAt w fb 57 [.int .i64 6, .int .i64 1, .int .i64 0, .slice none 0 0, .int .i64 1, .int .i64 0, .int .i64 0, .slice none 0 0]) : fmsAt (fun _ => False) w (.slice (some ⟨fb, 0, none⟩) 2 cap) wakF := by
  refine ⟨_, _, rfl, .inr ⟨fb, 0, rfl, fun h => h, h.lt, fun k x hx => ?_⟩⟩
  match k with
  | 0 =>
    have e : x = (6, 1, 0, []) := by simpa [wakF] using hx.symm
    subst e
    exact ⟨h.cell 0, h.cell 1, h.cell 2, _, h.cell 3, ⟨_, _, rfl, .inl rfl⟩⟩
  | 1 =>
    have e : x = (1, 0, 0, []) := by simpa [wakF] using hx.symm
    subst e
    exact ⟨h.cell 4, h.cell 5, h.cell 6, _, h.cell 7, ⟨_, _, rfl, .inl rfl⟩⟩
  | k + 2 => simp [wakF] at hx
theorem wakF_fm : ∀ m ∈ wakF, fmF m := by
  intro m hm
  simp only [wakF, List.mem_cons, List.not_mem_nil, or_false] at hm
  rcases hm with rfl | rfl
  · exact ⟨by decide, by decide, by decide, fun c hc => (by cases hc), by decide⟩
  · exact ⟨by decide, by decide, by decide, fun c hc => (by cases hc), by decide⟩
/-- Fits over wakes' forms. -/
theorem wak_fits {S2 : Nat → Prop} {w : World} (T : OpTab w) {fb cap : Nat} (h : rowAt w fb 57 [.int .i64 6, .int .i64 1, .int .i64 0, .slice none 0 0, .int .i64 1, .int .i64 0, .int .i64 0, .slice none 0 0]) {vm : Value} {m : List PCe} (hm : rdAt S2 w vm m.length (ceL m)) (hg : goodMs m = true) {r : Bool} (hr : fitL wakF [0] m = r) :
    Calls Tryz.prog 20 #[.slice (some ⟨fb, 0, none⟩) 2 cap, .int .i64 0, vm] w fun e w' => e = .returned (.bool r) ∧ Below w.heap.size w w' := by
  have hfa := wakF_at (cap := cap) h
  have key := fits_go T hfa wakF_fm (by decide) 0 hm wak_forms (by decide) (by decide) hg (fun W hb j hj c hc => by
    have hW := fms_below hfa hb
    match j, hj with
    | 0, _ =>
      by_cases h0 : c = numCe 0
      · exact fit_6_nil hW (k := 0) rfl c h0
      · exact fit_6_two hW (k := 0) rfl c h0
    | 1, _ => exact fit_1 hW (k := 1) rfl c)
  rw [hr] at key
  exact key
theorem wak_fits2 {S2 : Nat → Prop} {w : World} (T : OpTab w) {fb cap : Nat} (h : rowAt w fb 57 [.int .i64 6, .int .i64 1, .int .i64 0, .slice none 0 0, .int .i64 1, .int .i64 0, .int .i64 0, .slice none 0 0]) {vm : Value} {m : List PCe} (hm : rdAt S2 w vm m.length (ceL m)) :
    Calls Tryz.prog 20 #[.slice (some ⟨fb, 0, none⟩) 2 cap, .int .i64 2, vm] w fun e w' => e = .returned (.bool false) ∧ Below w.heap.size w w' :=
  fits_no T (wakF_at (cap := cap) h) wakF_fm (by decide) 2 hm (by rw [show (decide ((0 : Int) ≤ 2 ∧ (2 : Int) < ((wakF.length : Nat) : Int))) = false by decide, Bool.false_and, Bool.and_false])
theorem make_twenty (w : World) : (Instr.makeSlice 22 (.int .i64 20) (.int .i64 20)).run Tryz.prog w = .ok (.slice (some ⟨w.heap.size, 0, none⟩) 20 20) (w.alloc (.cells ⟨wordsL (List.replicate 20 0)⟩ 42)) := make_words 20 (by omega) w
end Go.Proofs.YtnjpjhlodamanaaGreatDoor

/-
  Layer 10's wakes.
  Conditions: the tables of op read as the program's text lays them (OpTab).
-/
namespace Go.Proofs.YtnjpjhlodamanaaGreatDoor
set_option linter.unusedVariables false
set_option linter.unusedSimpArgs false
open Go.ChangeShapes Go.WideShapes Go.ChangeAt Go.RowKit
set_option maxRecDepth 100000

theorem rd_tailD {w : World} {g : Nat} (h : rowAt w g 51 (ceL oneM)) : rdAt (fun _ => False) w (.slice (some ⟨g, 4, none⟩) oneM.tail.length 4) oneM.tail.length (ceL oneM.tail) := by
  refine ⟨_, _, rfl, .inr ⟨g, 4, rfl, fun h => h, h.lt, fun j u hj => ?_⟩⟩
  rw [h.cell]
  have e4 : ceL oneM = ceC (blkCe 1 2) ++ ceL oneM.tail := by simp [ceL, oneM]
  rw [e4, List.getElem?_append_right (by simp [ceC]), show 4 + j - (ceC (blkCe 1 2)).length = j by simp [ceC]]
  exact hj
set_option maxHeartbeats 16000000 in
theorem dwakes_any (w : World) (T : OpTab w) :
    Calls Tryz.prog 5 #[] w fun e w' => e = .returned (.bool true) ∧ Below w.heap.size w w' := by
  have hmk := make_twenty
  have HT := Lib.hid T
  clear T
  go_enter Tryz.func5, Tryz.ntmps5
  go_wp2_with fail
  refine (lay_any _ _ (List.replicate 20 0) (readsAt.row (rest := []) (by rw [List.append_nil]; exact rowAt.made w _ _)) (fun x hx => by obtain rfl := List.eq_of_mem_replicate hx; exact ⟨by decide, by decide⟩) (by decide)).mono ?_
  rintro e w1 ⟨p, p2, F, G, rfl, h1, h2, h3, h4, h5, h6⟩
  clear h2 h3 h5
  have H1 := Lib.hid (show Held w1 p F dA0 from h1)
  have H4 := Lib.hid h4
  have H6 := Lib.hid (bl_call (bl_alloc (Below.refl w.heap.size w) (.cells ⟨wordsL (List.replicate 20 0)⟩ 42)) h6)
  have H4' := Lib.hid (fun k (hk : F k) => show w.heap.size ≤ k by have := h4 k hk; simp at this; omega)
  clear h1 h4 h6 hmk
  obtain ⟨W, hW⟩ : ∃ W, w1.alloc (.cells #[.pointer (some ⟨p, 0, none⟩), .pointer (some ⟨p2, 0, none⟩)] 33) = W := ⟨_, rfl⟩
  have K : Hid (Wd w p p2 w1.heap.size F dA0 W) := by
    have hb : Below w1.heap.size w1 W := by rw [← hW]; exact bl_alloc (Below.refl _ _) _
    exact ⟨H1.out.below hb, by rw [← hW]; exact rowAt.made _ _ _, fun hf => by have := H1.out.lt _ hf; omega, H6.out.size, H4'.out, bl_call H6.out hb⟩
  obtain ⟨b1, hb1⟩ : ∃ b1, w1.heap.size = b1 := ⟨_, rfl⟩
  rw [hb1] at K
  have a0 : W.cell? ⟨b1, 0, none⟩ = some (.pointer (some ⟨p, 0, none⟩)) := (K.out.two.cell 0).trans rfl
  have a1 : W.cell? ⟨b1, 1, none⟩ = some (.pointer (some ⟨p2, 0, none⟩)) := (K.out.two.cell 1).trans rfl
  have al := K.out.two.lt
  go_wp2_with fail
  clear hW
  go_upto_region 4 with fail
  go_cut [4, 5, 6] (fun v4 v5 v6 wx => CutW w p p2 b1 F v4 v5 v6 wx)
  case first =>
    have KD := Lib.hid (K.out.on (bl_drew (Below.refl _ _)))
    have KZ := Lib.hid (K.out.on (bl_alloc (Below.refl _ _) (.cells #[.int .i64 0, .int .i64 0, .int .i64 0, .int .i64 0] 24)))
    have KZD := Lib.hid (K.out.on (bl_drew (bl_alloc (Below.refl _ _) (.cells #[.int .i64 0, .int .i64 0, .int .i64 0, .int .i64 0] 24))))
    have G0 := Lib.hid (show (fun w' => w'.cell? ⟨b1, 0, none⟩ = some (.pointer (some ⟨p, 0, none⟩))) W from (K.out.two.cell 0).trans rfl)
    have G1 := Lib.hid (show (fun w' => w'.cell? ⟨b1, 0, none⟩ = some (.pointer (some ⟨p, 0, none⟩))) W.drew from (KD.out.two.cell 0).trans rfl)
    have G2 := Lib.hid (show (fun w' => w'.cell? ⟨b1, 0, none⟩ = some (.pointer (some ⟨p, 0, none⟩))) (W.alloc (.cells #[.int .i64 0, .int .i64 0, .int .i64 0, .int .i64 0] 24)) from (KZ.out.two.cell 0).trans rfl)
    have G3 := Lib.hid (show (fun w' => w'.cell? ⟨b1, 0, none⟩ = some (.pointer (some ⟨p, 0, none⟩))) (W.alloc (.cells #[.int .i64 0, .int .i64 0, .int .i64 0, .int .i64 0] 24)).drew from (KZD.out.two.cell 0).trans rfl)
    have IN5 := Lib.hid (fun (W' : World) (g : Nat) (hh : Held W' p F dA0) (hr : rowAt W' g 51 (ceL oneM)) (hg : ¬ F g) => show Calls Tryz.prog 10 #[.pointer (some ⟨p, 0, none⟩), .agg #[.int .i64 3, .int .i64 10, .int .i64 0, .int .i64 0], .slice (some ⟨g, 0, none⟩) 5 5] W' (InT dA0 3 10 0 0 oneM p F W') from dIn_any (m := oneM) (a := some ⟨g, 0, none⟩) (cap := 5) hh 3 10 0 0 (row_rd hr hg) (by decide))
    have LT := K.out.held.lt
    have NFL := Lib.hid LT
    clear LT
    have ZL := Lib.hid (show b1 < W.heap.size from K.out.two.lt)
    have ZB := Lib.hid (show w.heap.size ≤ W.heap.size from K.out.below.size)
    have nbW : b1 ≠ W.heap.size := by have := ZL.out; omega
    go_wp2_with fail
    go_region_held3 (fun w' => w'.cell? ⟨b1, 0, none⟩ = some (.pointer (some ⟨p, 0, none⟩)))
      (first | with_reducible exact G0.out | with_reducible exact G1.out | with_reducible exact G2.out | with_reducible exact G3.out | with_reducible exact Y3.out | with_reducible exact Y4.out | with_reducible exact Y5.out | with_reducible exact Y6.out | (simp [go_sem, y4, l4, nbW, nb3]; done))
      (first
      | (go_at_call 18
         with_reducible refine (one_any W.drew).mono ?_
         rintro e w3 ⟨rfl, hr3, b3⟩
         have K3 := Lib.hid (KD.out.on b3)
         have O3 := Lib.hid (show rowAt w3 W.heap.size 51 (ceL oneM) from hr3)
         have S3 : Hid (W.heap.size ≤ w3.heap.size) := Lib.hid (by have := b3.size; simp at this; omega)
         have nb3 : b1 ≠ w3.heap.size := by have := ZL.out; have := S3.out; omega
         have Y3 := Lib.hid (show (fun w' => w'.cell? ⟨b1, 0, none⟩ = some (.pointer (some ⟨p, 0, none⟩))) w3 from (K3.out.two.cell 0).trans rfl)
         have Y5 := Lib.hid (show (fun w' => w'.cell? ⟨b1, 0, none⟩ = some (.pointer (some ⟨p, 0, none⟩))) (w3.alloc (.cells #[.int .i64 0, .int .i64 0, .int .i64 0, .int .i64 0] 24)) from ((K3.out.on (bl_alloc (Below.refl _ _) (.cells #[.int .i64 0, .int .i64 0, .int .i64 0, .int .i64 0] 24))).two.cell 0).trans rfl)
         have Y6 := Lib.hid (show (fun w' => w'.cell? ⟨b1, 0, none⟩ = some (.pointer (some ⟨p, 0, none⟩))) (w3.alloc (.cells #[.int .i64 0, .int .i64 0, .int .i64 0, .int .i64 0] 24)).drew from ((K3.out.on (bl_drew (bl_alloc (Below.refl _ _) (.cells #[.int .i64 0, .int .i64 0, .int .i64 0, .int .i64 0] 24)))).two.cell 0).trans rfl)
         clear hr3 b3)
      | (go_at_call 18
         with_reducible refine (one_any (W.alloc (.cells #[.int .i64 0, .int .i64 0, .int .i64 0, .int .i64 0] 24)).drew).mono ?_
         rintro e w3 ⟨rfl, hr3, b3⟩
         have K3 := Lib.hid (KZD.out.on b3)
         have O3 := Lib.hid (show rowAt w3 (W.heap.size + 1) 51 (ceL oneM) by simpa using hr3)
         have S3 : Hid (W.heap.size ≤ w3.heap.size) := Lib.hid (by have := b3.size; simp at this; omega)
         have RZ3 := Lib.hid ((rowAt.made W 24 [.int .i64 0, .int .i64 0, .int .i64 0, .int .i64 0]).drew.below b3 (by simp))
         have nb3 : b1 ≠ w3.heap.size := by have := ZL.out; have := S3.out; omega
         have Y3 := Lib.hid (show (fun w' => w'.cell? ⟨b1, 0, none⟩ = some (.pointer (some ⟨p, 0, none⟩))) w3 from (K3.out.two.cell 0).trans rfl)
         have Y5 := Lib.hid (show (fun w' => w'.cell? ⟨b1, 0, none⟩ = some (.pointer (some ⟨p, 0, none⟩))) (w3.alloc (.cells #[.int .i64 0, .int .i64 0, .int .i64 0, .int .i64 0] 24)) from ((K3.out.on (bl_alloc (Below.refl _ _) (.cells #[.int .i64 0, .int .i64 0, .int .i64 0, .int .i64 0] 24))).two.cell 0).trans rfl)
         have Y6 := Lib.hid (show (fun w' => w'.cell? ⟨b1, 0, none⟩ = some (.pointer (some ⟨p, 0, none⟩))) (w3.alloc (.cells #[.int .i64 0, .int .i64 0, .int .i64 0, .int .i64 0] 24)).drew from ((K3.out.on (bl_drew (bl_alloc (Below.refl _ _) (.cells #[.int .i64 0, .int .i64 0, .int .i64 0, .int .i64 0] 24)))).two.cell 0).trans rfl)
         clear hr3 b3)
      | (go_at_call 10
         have RZ := RZ3.out
         with_reducible refine (IN5.out w3 _ K3.out.held O3.out (fun hf => by have := NFL.out _ hf; omega)).mono ?_
         rintro e w4 hin
         obtain ⟨hs4, A1, X, rfl, hh4, ho4, hp4⟩ := wak_in dA0_objs hin
         have K4 := Lib.hid (K3.out.step hs4 hh4)
         have RZ4 := Lib.hid (RZ.upon hs4.upon (fun hf => by have := NFL.out _ hf; have := S3.out; omega))
         obtain ⟨z0, z1, z2, z3⟩ := cells4 RZ4.out
         have f0 := RZ4.out.free 0
         have f1 := RZ4.out.free 1
         have f2 := RZ4.out.free 2
         have f3 := RZ4.out.free 3
         have lz := RZ4.out.lt
         have Y4 := Lib.hid (show (fun w' => w'.cell? ⟨b1, 0, none⟩ = some (.pointer (some ⟨p, 0, none⟩))) w4 from (K4.out.two.cell 0).trans rfl)
         have y4 := Y4.out
         have l4 := K4.out.two.lt
         have HO4 := Lib.hid ho4
         have HP4 := Lib.hid hp4
         clear hin hs4 hh4 ho4 hp4)
      | (go_at_call 10
         with_reducible refine (IN5.out w3 _ K3.out.held O3.out (fun hf => by have := NFL.out _ hf; omega)).mono ?_
         rintro e w4 hin
         obtain ⟨hs4, A1, X, rfl, hh4, ho4, hp4⟩ := wak_in dA0_objs hin
         have K4 := Lib.hid (K3.out.step hs4 hh4)
         have Y4 := Lib.hid (show (fun w' => w'.cell? ⟨b1, 0, none⟩ = some (.pointer (some ⟨p, 0, none⟩))) w4 from (K4.out.two.cell 0).trans rfl)
         have y4 := Y4.out
         have l4 := K4.out.two.lt
         have HO4 := Lib.hid ho4
         have HP4 := Lib.hid hp4
         clear hin hs4 hh4 ho4 hp4)
      | (go_at_call 10
         with_reducible refine (IN5.out (w3.alloc (.cells #[.int .i64 0, .int .i64 0, .int .i64 0, .int .i64 0] 24)) _ (K3.out.on (bl_alloc (Below.refl _ _) (.cells #[.int .i64 0, .int .i64 0, .int .i64 0, .int .i64 0] 24))).held (O3.out.alloc (.cells #[.int .i64 0, .int .i64 0, .int .i64 0, .int .i64 0] 24)) (fun hf => by have := NFL.out _ hf; omega)).mono ?_
         rintro e w4 hin
         obtain ⟨hs4, A1, X, rfl, hh4, ho4, hp4⟩ := wak_in dA0_objs hin
         have K4 := Lib.hid ((K3.out.on (bl_alloc (Below.refl _ _) (.cells #[.int .i64 0, .int .i64 0, .int .i64 0, .int .i64 0] 24))).step hs4 hh4)
         have RZ4 := Lib.hid ((rowAt.made w3 24 [.int .i64 0, .int .i64 0, .int .i64 0, .int .i64 0]).upon hs4.upon (fun hf => by have := NFL.out _ hf; have := S3.out; omega))
         obtain ⟨z0, z1, z2, z3⟩ := cells4 RZ4.out
         have f0 := RZ4.out.free 0
         have f1 := RZ4.out.free 1
         have f2 := RZ4.out.free 2
         have f3 := RZ4.out.free 3
         have lz := RZ4.out.lt
         have Y4 := Lib.hid (show (fun w' => w'.cell? ⟨b1, 0, none⟩ = some (.pointer (some ⟨p, 0, none⟩))) w4 from (K4.out.two.cell 0).trans rfl)
         have y4 := Y4.out
         have l4 := K4.out.two.lt
         have HO4 := Lib.hid ho4
         have HP4 := Lib.hid hp4
         clear hin hs4 hh4 ho4 hp4))
    all_goals
      go_wp2_with fail
      go_meet
      first
        | exact cutW_last K4.out HO4.out HP4.out
        | exact cutW_set K4.out HO4.out HP4.out RZ4.out (fun hf => by have := NFL.out _ hf; have := S3.out; omega) (by have := ZL.out; have := S3.out; omega) (by have := ZB.out; have := S3.out; omega)
  case rest =>
    obtain ⟨hb, A1, X, rfl, rfl, rfl, hk, hh, nfh, ho, hp⟩ := hcut
    have K1 := Lib.hid hk
    have HV0 := Lib.hid hh
    have HN := Lib.hid nfh
    have O1 := Lib.hid ho
    have HP := Lib.hid hp
    have e0 : wc.cell? ⟨b1, 0, none⟩ = some (.pointer (some ⟨p, 0, none⟩)) := (K1.out.two.cell 0).trans rfl
    obtain ⟨h0, h1, h2, h3⟩ := cells4 HV0.out
    clear hk hh nfh ho hp K a0 a1 al
    go_wp2_with fail
    refine (out_any K1.out.held 3 10 0 8 0 ⟨by decide, by decide⟩).mono ?_
    rintro e V hout
    obtain ⟨bV, oa, oc, rfl, hom⟩ := wak_out O1.out HP.out hout
    have KV := Lib.hid (K1.out.on bV)
    have HV := Lib.hid (HV0.out.below bV HV0.out.lt)
    have RM : Hid (rdAt (fun k => F k ∨ V.heap.size ≤ k) V (.slice oa 5 oc) 5 (ceL oneM)) := Lib.hid (rdAt.of_owns hom (fun g hg hk => by
      have h1 := (hom.lt g hg)
      rcases hk with hk | hk
      · have := K1.out.held.lt _ hk; omega
      · omega))
    clear hout bV hom e0 h0 h1 h2 h3
    go_upto_region 6 with fail
    go_cut [9, 10, 11] (fun v9 v10 v11 wx => CutX V w p p2 b1 F hb A1 v9 v10 v11 wx)
    case first =>
      have KD := Lib.hid (KV.out.on (bl_drew (Below.refl _ _)))
      have KZ := Lib.hid (KV.out.on (bl_alloc (Below.refl _ _) (.cells #[.int .i64 0, .int .i64 0, .int .i64 0, .int .i64 0] 24)))
      have KZD := Lib.hid (KV.out.on (bl_drew (bl_alloc (Below.refl _ _) (.cells #[.int .i64 0, .int .i64 0, .int .i64 0, .int .i64 0] 24))))
      have G0 := Lib.hid (show (fun w' => w'.cell? ⟨b1, 0, none⟩ = some (.pointer (some ⟨p, 0, none⟩)) ∧ w'.cell? ⟨hb, 0, none⟩ = some (.int .i64 3) ∧ w'.cell? ⟨hb, 1, none⟩ = some (.int .i64 10) ∧ w'.cell? ⟨hb, 2, none⟩ = some (.int .i64 0) ∧ w'.cell? ⟨hb, 3, none⟩ = some (.int .i64 8)) V from And.intro ((KV.out.two.cell 0).trans rfl) (cells4 HV.out))
      have G1 := Lib.hid (show (fun w' => w'.cell? ⟨b1, 0, none⟩ = some (.pointer (some ⟨p, 0, none⟩)) ∧ w'.cell? ⟨hb, 0, none⟩ = some (.int .i64 3) ∧ w'.cell? ⟨hb, 1, none⟩ = some (.int .i64 10) ∧ w'.cell? ⟨hb, 2, none⟩ = some (.int .i64 0) ∧ w'.cell? ⟨hb, 3, none⟩ = some (.int .i64 8)) V.drew from And.intro ((KD.out.two.cell 0).trans rfl) (cells4 HV.out.drew))
      have G2 := Lib.hid (show (fun w' => w'.cell? ⟨b1, 0, none⟩ = some (.pointer (some ⟨p, 0, none⟩)) ∧ w'.cell? ⟨hb, 0, none⟩ = some (.int .i64 3) ∧ w'.cell? ⟨hb, 1, none⟩ = some (.int .i64 10) ∧ w'.cell? ⟨hb, 2, none⟩ = some (.int .i64 0) ∧ w'.cell? ⟨hb, 3, none⟩ = some (.int .i64 8)) (V.alloc (.cells #[.int .i64 0, .int .i64 0, .int .i64 0, .int .i64 0] 24)) from And.intro ((KZ.out.two.cell 0).trans rfl) (cells4 (HV.out.alloc (.cells #[.int .i64 0, .int .i64 0, .int .i64 0, .int .i64 0] 24))))
      have G3 := Lib.hid (show (fun w' => w'.cell? ⟨b1, 0, none⟩ = some (.pointer (some ⟨p, 0, none⟩)) ∧ w'.cell? ⟨hb, 0, none⟩ = some (.int .i64 3) ∧ w'.cell? ⟨hb, 1, none⟩ = some (.int .i64 10) ∧ w'.cell? ⟨hb, 2, none⟩ = some (.int .i64 0) ∧ w'.cell? ⟨hb, 3, none⟩ = some (.int .i64 8)) (V.alloc (.cells #[.int .i64 0, .int .i64 0, .int .i64 0, .int .i64 0] 24)).drew from And.intro ((KZD.out.two.cell 0).trans rfl) (cells4 (HV.out.alloc (.cells #[.int .i64 0, .int .i64 0, .int .i64 0, .int .i64 0] 24)).drew))
      have IN5 := Lib.hid (fun (W' : World) (g : Nat) (hh : Held W' p F A1) (hr : rowAt W' g 51 (ceL oneM)) (hg : ¬ F g) => show Calls Tryz.prog 10 #[.pointer (some ⟨p, 0, none⟩), .agg #[.int .i64 3, .int .i64 10, .int .i64 0, .int .i64 8], .slice (some ⟨g, 0, none⟩) 5 5] W' (InT A1 3 10 0 8 oneM p F W') from dIn_any (m := oneM) (a := some ⟨g, 0, none⟩) (cap := 5) hh 3 10 0 8 (row_rd hr hg) (by decide))
      have LT := KV.out.held.lt
      have NFL := Lib.hid LT
      clear LT
      have ZL := Lib.hid (show b1 < V.heap.size from KV.out.two.lt)
      have ZB := Lib.hid (show w.heap.size ≤ V.heap.size from KV.out.below.size)
      have nhW : hb ≠ V.heap.size := by have := HV.out.lt; omega
      have nbW : b1 ≠ V.heap.size := by have := ZL.out; omega
      go_wp2_with fail
      go_region_held3 (fun w' => w'.cell? ⟨b1, 0, none⟩ = some (.pointer (some ⟨p, 0, none⟩)) ∧ w'.cell? ⟨hb, 0, none⟩ = some (.int .i64 3) ∧ w'.cell? ⟨hb, 1, none⟩ = some (.int .i64 10) ∧ w'.cell? ⟨hb, 2, none⟩ = some (.int .i64 0) ∧ w'.cell? ⟨hb, 3, none⟩ = some (.int .i64 8))
        (first | with_reducible exact G0.out | with_reducible exact G1.out | with_reducible exact G2.out | with_reducible exact G3.out | with_reducible exact Y3.out | with_reducible exact Y4.out | with_reducible exact Y5.out | with_reducible exact Y6.out | ((refine ⟨?_, ?_, ?_, ?_, ?_⟩ <;> simp [go_sem, y4, l4, l5, h0, h1, h2, h3, nbW, nb3, nhW, nh3]); done))
        (first
        | (go_at_call 18
           with_reducible refine (one_any V.drew).mono ?_
           rintro e w3 ⟨rfl, hr3, b3⟩
           have K3 := Lib.hid (KD.out.on b3)
           have O3 := Lib.hid (show rowAt w3 V.heap.size 51 (ceL oneM) from hr3)
           have HV3 := Lib.hid (HV.out.drew.below b3 HV.out.lt)
           have B3 := Lib.hid (bl_call (bl_drew (Below.refl V.heap.size V)) b3)
           have nh3 : hb ≠ w3.heap.size := by have := HV3.out.lt; omega
           have S3 : Hid (V.heap.size ≤ w3.heap.size) := Lib.hid (by have := b3.size; simp at this; omega)
           have nb3 : b1 ≠ w3.heap.size := by have := ZL.out; have := S3.out; omega
           have Y3 := Lib.hid (show (fun w' => w'.cell? ⟨b1, 0, none⟩ = some (.pointer (some ⟨p, 0, none⟩)) ∧ w'.cell? ⟨hb, 0, none⟩ = some (.int .i64 3) ∧ w'.cell? ⟨hb, 1, none⟩ = some (.int .i64 10) ∧ w'.cell? ⟨hb, 2, none⟩ = some (.int .i64 0) ∧ w'.cell? ⟨hb, 3, none⟩ = some (.int .i64 8)) w3 from And.intro ((K3.out.two.cell 0).trans rfl) (cells4 HV3.out))
           have Y5 := Lib.hid (show (fun w' => w'.cell? ⟨b1, 0, none⟩ = some (.pointer (some ⟨p, 0, none⟩)) ∧ w'.cell? ⟨hb, 0, none⟩ = some (.int .i64 3) ∧ w'.cell? ⟨hb, 1, none⟩ = some (.int .i64 10) ∧ w'.cell? ⟨hb, 2, none⟩ = some (.int .i64 0) ∧ w'.cell? ⟨hb, 3, none⟩ = some (.int .i64 8)) (w3.alloc (.cells #[.int .i64 0, .int .i64 0, .int .i64 0, .int .i64 0] 24)) from And.intro (((K3.out.on (bl_alloc (Below.refl _ _) (.cells #[.int .i64 0, .int .i64 0, .int .i64 0, .int .i64 0] 24))).two.cell 0).trans rfl) (cells4 (HV3.out.alloc (.cells #[.int .i64 0, .int .i64 0, .int .i64 0, .int .i64 0] 24))))
           have Y6 := Lib.hid (show (fun w' => w'.cell? ⟨b1, 0, none⟩ = some (.pointer (some ⟨p, 0, none⟩)) ∧ w'.cell? ⟨hb, 0, none⟩ = some (.int .i64 3) ∧ w'.cell? ⟨hb, 1, none⟩ = some (.int .i64 10) ∧ w'.cell? ⟨hb, 2, none⟩ = some (.int .i64 0) ∧ w'.cell? ⟨hb, 3, none⟩ = some (.int .i64 8)) (w3.alloc (.cells #[.int .i64 0, .int .i64 0, .int .i64 0, .int .i64 0] 24)).drew from And.intro (((K3.out.on (bl_drew (bl_alloc (Below.refl _ _) (.cells #[.int .i64 0, .int .i64 0, .int .i64 0, .int .i64 0] 24)))).two.cell 0).trans rfl) (cells4 (HV3.out.alloc (.cells #[.int .i64 0, .int .i64 0, .int .i64 0, .int .i64 0] 24)).drew))
           clear hr3 b3)
        | (go_at_call 18
           with_reducible refine (one_any (V.alloc (.cells #[.int .i64 0, .int .i64 0, .int .i64 0, .int .i64 0] 24)).drew).mono ?_
           rintro e w3 ⟨rfl, hr3, b3⟩
           have K3 := Lib.hid (KZD.out.on b3)
           have O3 := Lib.hid (show rowAt w3 (V.heap.size + 1) 51 (ceL oneM) by simpa using hr3)
           have HV3 := Lib.hid ((HV.out.alloc (.cells #[.int .i64 0, .int .i64 0, .int .i64 0, .int .i64 0] 24)).drew.below b3 (HV.out.alloc (.cells #[.int .i64 0, .int .i64 0, .int .i64 0, .int .i64 0] 24)).lt)
           have B3 := Lib.hid (bl_call (bl_drew (bl_alloc (Below.refl V.heap.size V) (.cells #[.int .i64 0, .int .i64 0, .int .i64 0, .int .i64 0] 24))) b3)
           have nh3 : hb ≠ w3.heap.size := by have := HV3.out.lt; omega
           have S3 : Hid (V.heap.size ≤ w3.heap.size) := Lib.hid (by have := b3.size; simp at this; omega)
           have RZ3 := Lib.hid ((rowAt.made V 24 [.int .i64 0, .int .i64 0, .int .i64 0, .int .i64 0]).drew.below b3 (by simp))
           have nb3 : b1 ≠ w3.heap.size := by have := ZL.out; have := S3.out; omega
           have Y3 := Lib.hid (show (fun w' => w'.cell? ⟨b1, 0, none⟩ = some (.pointer (some ⟨p, 0, none⟩)) ∧ w'.cell? ⟨hb, 0, none⟩ = some (.int .i64 3) ∧ w'.cell? ⟨hb, 1, none⟩ = some (.int .i64 10) ∧ w'.cell? ⟨hb, 2, none⟩ = some (.int .i64 0) ∧ w'.cell? ⟨hb, 3, none⟩ = some (.int .i64 8)) w3 from And.intro ((K3.out.two.cell 0).trans rfl) (cells4 HV3.out))
           have Y5 := Lib.hid (show (fun w' => w'.cell? ⟨b1, 0, none⟩ = some (.pointer (some ⟨p, 0, none⟩)) ∧ w'.cell? ⟨hb, 0, none⟩ = some (.int .i64 3) ∧ w'.cell? ⟨hb, 1, none⟩ = some (.int .i64 10) ∧ w'.cell? ⟨hb, 2, none⟩ = some (.int .i64 0) ∧ w'.cell? ⟨hb, 3, none⟩ = some (.int .i64 8)) (w3.alloc (.cells #[.int .i64 0, .int .i64 0, .int .i64 0, .int .i64 0] 24)) from And.intro (((K3.out.on (bl_alloc (Below.refl _ _) (.cells #[.int .i64 0, .int .i64 0, .int .i64 0, .int .i64 0] 24))).two.cell 0).trans rfl) (cells4 (HV3.out.alloc (.cells #[.int .i64 0, .int .i64 0, .int .i64 0, .int .i64 0] 24))))
           have Y6 := Lib.hid (show (fun w' => w'.cell? ⟨b1, 0, none⟩ = some (.pointer (some ⟨p, 0, none⟩)) ∧ w'.cell? ⟨hb, 0, none⟩ = some (.int .i64 3) ∧ w'.cell? ⟨hb, 1, none⟩ = some (.int .i64 10) ∧ w'.cell? ⟨hb, 2, none⟩ = some (.int .i64 0) ∧ w'.cell? ⟨hb, 3, none⟩ = some (.int .i64 8)) (w3.alloc (.cells #[.int .i64 0, .int .i64 0, .int .i64 0, .int .i64 0] 24)).drew from And.intro (((K3.out.on (bl_drew (bl_alloc (Below.refl _ _) (.cells #[.int .i64 0, .int .i64 0, .int .i64 0, .int .i64 0] 24)))).two.cell 0).trans rfl) (cells4 (HV3.out.alloc (.cells #[.int .i64 0, .int .i64 0, .int .i64 0, .int .i64 0] 24)).drew))
           clear hr3 b3)
        | (go_at_call 10
           have RZ := RZ3.out
           with_reducible refine (IN5.out w3 _ K3.out.held O3.out (fun hf => by have := NFL.out _ hf; omega)).mono ?_
           rintro e w4 hin
           obtain ⟨hs4, rfl, hh4⟩ := wak_in2 O1.out hin
           have HV4 := Lib.hid (HV3.out.upon hs4.upon HN.out)
           have U4 := Lib.hid ((Upon.of_below (S := F) B3.out).trans hs4.upon (fun _ _ h => h))
           have K4 := Lib.hid (K3.out.step hs4 hh4)
           have RZ4 := Lib.hid (RZ.upon hs4.upon (fun hf => by have := NFL.out _ hf; have := S3.out; omega))
           obtain ⟨z0, z1, z2, z3⟩ := cells4 RZ4.out
           have f0 := RZ4.out.free 0
           have f1 := RZ4.out.free 1
           have f2 := RZ4.out.free 2
           have f3 := RZ4.out.free 3
           have lz := RZ4.out.lt
           have Y4 := Lib.hid (show (fun w' => w'.cell? ⟨b1, 0, none⟩ = some (.pointer (some ⟨p, 0, none⟩)) ∧ w'.cell? ⟨hb, 0, none⟩ = some (.int .i64 3) ∧ w'.cell? ⟨hb, 1, none⟩ = some (.int .i64 10) ∧ w'.cell? ⟨hb, 2, none⟩ = some (.int .i64 0) ∧ w'.cell? ⟨hb, 3, none⟩ = some (.int .i64 8)) w4 from And.intro ((K4.out.two.cell 0).trans rfl) (cells4 HV4.out))
           obtain ⟨y4, h0, h1, h2, h3⟩ := Y4.out
           have l4 := K4.out.two.lt
           have l5 := HV4.out.lt
           clear hin hs4 hh4)
        | (go_at_call 10
           with_reducible refine (IN5.out w3 _ K3.out.held O3.out (fun hf => by have := NFL.out _ hf; omega)).mono ?_
           rintro e w4 hin
           obtain ⟨hs4, rfl, hh4⟩ := wak_in2 O1.out hin
           have HV4 := Lib.hid (HV3.out.upon hs4.upon HN.out)
           have U4 := Lib.hid ((Upon.of_below (S := F) B3.out).trans hs4.upon (fun _ _ h => h))
           have K4 := Lib.hid (K3.out.step hs4 hh4)
           have Y4 := Lib.hid (show (fun w' => w'.cell? ⟨b1, 0, none⟩ = some (.pointer (some ⟨p, 0, none⟩)) ∧ w'.cell? ⟨hb, 0, none⟩ = some (.int .i64 3) ∧ w'.cell? ⟨hb, 1, none⟩ = some (.int .i64 10) ∧ w'.cell? ⟨hb, 2, none⟩ = some (.int .i64 0) ∧ w'.cell? ⟨hb, 3, none⟩ = some (.int .i64 8)) w4 from And.intro ((K4.out.two.cell 0).trans rfl) (cells4 HV4.out))
           obtain ⟨y4, h0, h1, h2, h3⟩ := Y4.out
           have l4 := K4.out.two.lt
           have l5 := HV4.out.lt
           clear hin hs4 hh4)
        | (go_at_call 10
           with_reducible refine (IN5.out (w3.alloc (.cells #[.int .i64 0, .int .i64 0, .int .i64 0, .int .i64 0] 24)) _ (K3.out.on (bl_alloc (Below.refl _ _) (.cells #[.int .i64 0, .int .i64 0, .int .i64 0, .int .i64 0] 24))).held (O3.out.alloc (.cells #[.int .i64 0, .int .i64 0, .int .i64 0, .int .i64 0] 24)) (fun hf => by have := NFL.out _ hf; omega)).mono ?_
           rintro e w4 hin
           obtain ⟨hs4, rfl, hh4⟩ := wak_in2 O1.out hin
           have HV4 := Lib.hid ((HV3.out.alloc (.cells #[.int .i64 0, .int .i64 0, .int .i64 0, .int .i64 0] 24)).upon hs4.upon HN.out)
           have U4 := Lib.hid ((Upon.of_below (S := F) (bl_alloc B3.out (.cells #[.int .i64 0, .int .i64 0, .int .i64 0, .int .i64 0] 24))).trans hs4.upon (fun _ _ h => h))
           have K4 := Lib.hid ((K3.out.on (bl_alloc (Below.refl _ _) (.cells #[.int .i64 0, .int .i64 0, .int .i64 0, .int .i64 0] 24))).step hs4 hh4)
           have RZ4 := Lib.hid ((rowAt.made w3 24 [.int .i64 0, .int .i64 0, .int .i64 0, .int .i64 0]).upon hs4.upon (fun hf => by have := NFL.out _ hf; have := S3.out; omega))
           obtain ⟨z0, z1, z2, z3⟩ := cells4 RZ4.out
           have f0 := RZ4.out.free 0
           have f1 := RZ4.out.free 1
           have f2 := RZ4.out.free 2
           have f3 := RZ4.out.free 3
           have lz := RZ4.out.lt
           have Y4 := Lib.hid (show (fun w' => w'.cell? ⟨b1, 0, none⟩ = some (.pointer (some ⟨p, 0, none⟩)) ∧ w'.cell? ⟨hb, 0, none⟩ = some (.int .i64 3) ∧ w'.cell? ⟨hb, 1, none⟩ = some (.int .i64 10) ∧ w'.cell? ⟨hb, 2, none⟩ = some (.int .i64 0) ∧ w'.cell? ⟨hb, 3, none⟩ = some (.int .i64 8)) w4 from And.intro ((K4.out.two.cell 0).trans rfl) (cells4 HV4.out))
           obtain ⟨y4, h0, h1, h2, h3⟩ := Y4.out
           have l4 := K4.out.two.lt
           have l5 := HV4.out.lt
           clear hin hs4 hh4))
      all_goals
        go_wp2_with fail
        go_meet
        first
          | exact cutX_last K4.out HV4.out U4.out
          | exact cutX_set K4.out HV4.out RZ4.out (fun hf => by have := NFL.out _ hf; have := S3.out; omega) (by have := ZL.out; have := S3.out; omega) (by have := HV.out.lt; have := S3.out; omega) (by have := ZB.out; have := S3.out; omega) U4.out (by have := S3.out; omega)
    case rest =>
      obtain ⟨hu, gb, rfl, rfl, rfl, hk2, hh2, hg2⟩ := hcut
      obtain ⟨W1, hW1⟩ : ∃ W1, wc.alloc (.cells #[.int .i64 6, .int .i64 1, .int .i64 0, .slice none 0 0, .int .i64 1, .int .i64 0, .int .i64 0, .slice none 0 0] 57) = W1 := ⟨_, rfl⟩
      obtain ⟨W2, hW2⟩ : ∃ W2, W1.alloc (.cells #[.int .i64 1, .int .i64 1, .int .i64 2, .string ⟨#[]⟩, .int .i64 0, .int .i64 0, .int .i64 1, .string ⟨#[]⟩, .int .i64 0, .int .i64 0, .int .i64 0, .string ⟨#[]⟩] 51) = W2 := ⟨_, rfl⟩
      have bw1 : Below wc.heap.size wc W1 := by rw [← hW1]; exact bl_alloc (Below.refl _ _) _
      have bw2 : Below W1.heap.size W1 W2 := by rw [← hW2]; exact bl_alloc (Below.refl _ _) _
      have bw := bl_call bw1 bw2
      have FR0 : rowAt W1 wc.heap.size 57 [.int .i64 6, .int .i64 1, .int .i64 0, .slice none 0 0, .int .i64 1, .int .i64 0, .int .i64 0, .slice none 0 0] := by rw [← hW1]; exact rowAt.made _ _ _
      have FR := Lib.hid (FR0.below bw2 FR0.lt)
      have LR := Lib.hid (show rowAt W2 W1.heap.size 51 (ceL twoM) by rw [← hW2]; exact rowAt.made _ _ _)
      have HX := Lib.hid (hh2.below bw hh2.lt)
      have GX := Lib.hid (hg2.below bw hg2.lt)
      have RX := Lib.hid ((RM.out.upon hu (fun k _ hk => .inl hk)).below bw)
      have BX := Lib.hid (bl_call hk2.below bw)
      have TX := Lib.hid (HT.out.below BX.out)
      have B0 := Lib.hid (Below.refl W2.heap.size W2)
      obtain ⟨h0, h1, h2, h3⟩ := cells4 HX.out
      obtain ⟨g0, g1, g2, g3⟩ := cells4 GX.out
      have lh := HX.out.lt
      have lg := GX.out.lt
      clear hu hk2 hh2 hg2 bw1 bw2 bw FR0
      have q1 : ∀ w, (Op.equalIn 10000 24 (.agg #[.int .i64 0, .int .i64 0, .int .i64 0, .int .i64 0]) (.agg #[.int .i64 0, .int .i64 0, .int .i64 0, .int .i64 0])).run Tryz.prog w = .ok true w := fun w => by kernel_rfl
      have hsl : ∀ (g : Nat) W, (Instr.slice 41 (.slice (some ⟨g, 0, none⟩) 5 5) (some (.int .i64 1)) none none).run Tryz.prog W = .ok (.slice (some ⟨g, 4, none⟩) 4 4) W := fun g W => by
        obtain ⟨ic, hic, hc0, hc1, hc2⟩ := info_parts info_cell
        have h := run_slice_from_w (P := Tryz.prog) 41 51 under_cells hic (some ⟨g, 0, none⟩) (n := 5) (c := 5) (k := 1) (by omega) W
        rw [hc1] at h
        exact h
      go_wp2_with fail
      clear hW1 hW2
      refine (one_any _).mono ?_
      rintro e v1 ⟨rfl, hr, hb1⟩
      have O1 := Lib.hid hr
      have B1 := Lib.hid (bl_call B0.out hb1)
      clear hr hb1
      go_wp2_with fail
      refine (keepMessage_is (xs := oneM) (ys := oneM) (RX.out.below B1.out) (row_rd (F := fun _ => False) O1.out (fun h => h)) (by decide) (B := true) (by simp)).mono ?_
      rintro e v2 ⟨rfl, hb2⟩
      have B2 := Lib.hid (bl_call B1.out hb2)
      clear hb2
      obtain ⟨g0, g1, g2, g3⟩ := cells4 (GX.out.below B2.out GX.out.lt)
      have lg2 := (GX.out.below B2.out GX.out.lt).lt
      go_wp2_with fail
      refine (one_any _).mono ?_
      rintro e v3 ⟨rfl, hr, hb3⟩
      have O3 := Lib.hid hr
      have B3 := Lib.hid (bl_call B2.out hb3)
      clear hr hb3
      go_wp2_with fail
      refine (dwords_is (m := oneM) (n := 8) (by decide +kernel) (row_rd (F := fun _ => False) O3.out (fun h => h))).mono ?_
      rintro e v4 ⟨rfl, hb4⟩
      have B4 := Lib.hid (bl_call B3.out hb4)
      clear hb4
      go_wp2_with fail
      refine (one_any _).mono ?_
      rintro e v5 ⟨rfl, hr, hb5⟩
      have O5 := Lib.hid hr
      have B5 := Lib.hid (bl_call B4.out hb5)
      clear hr hb5
      go_wp2_with fail
      refine (dgood_is one_good (row_rd (F := fun _ => False) O5.out (fun h => h))).mono ?_
      rintro e v6 ⟨rfl, hb6⟩
      have B6 := Lib.hid (bl_call B5.out hb6)
      clear hb6
      go_wp2_with fail
      refine (one_any _).mono ?_
      rintro e v7 ⟨rfl, hr, hb7⟩
      have O7 := Lib.hid hr
      have B7 := Lib.hid (bl_call B6.out hb7)
      clear hr hb7
      go_wp2_with fail
      refine (dgood_is (m := oneM.tail) one_tail (rd_tailD O7.out)).mono ?_
      rintro e v8 ⟨rfl, hb8⟩
      have B8 := Lib.hid (bl_call B7.out hb8)
      clear hb8
      go_wp2_with fail
      refine (wak_fits (m := twoM) (TX.out.below B8.out) (FR.out.below B8.out FR.out.lt) (row_rd (F := fun _ => False) (LR.out.below B8.out LR.out.lt) (fun h => h)) two_good wak_yes).mono ?_
      rintro e v9 ⟨rfl, hb9⟩
      have B9 := Lib.hid (bl_call B8.out hb9)
      clear hb9
      go_wp2_with fail
      refine (one_any _).mono ?_
      rintro e v10 ⟨rfl, hr, hb10⟩
      have O10 := Lib.hid hr
      have B10 := Lib.hid (bl_call B9.out hb10)
      clear hr hb10
      go_wp2_with fail
      refine (wak_fits (m := oneM) (TX.out.below B10.out) (FR.out.below B10.out FR.out.lt) (row_rd (F := fun _ => False) O10.out (fun h => h)) one_good wak_no).mono ?_
      rintro e v11 ⟨rfl, hb11⟩
      have B11 := Lib.hid (bl_call B10.out hb11)
      clear hb11
      go_wp2_with fail
      refine (wak_fits2 (m := twoM) (TX.out.below B11.out) (FR.out.below B11.out FR.out.lt) (row_rd (F := fun _ => False) (LR.out.below B11.out LR.out.lt) (fun h => h))).mono ?_
      rintro e v12 ⟨rfl, hb12⟩
      have B12 := Lib.hid (bl_call B11.out hb12)
      clear hb12
      go_wp2_with fail
      go_ret
      exact ⟨rfl, bl_call BX.out B12.out⟩
end Go.Proofs.YtnjpjhlodamanaaGreatDoor

/-
  What the law DataBack goes through: plain facts, and what stands in memory in its two loops.
  Conditions: as each states.
-/
namespace Go.Proofs.YtnjpjhlodamanaaGreatDoor
set_option linter.unusedVariables false
set_option linter.unusedSimpArgs false
open Go.ChangeShapes Go.WideShapes Go.ChangeAt Go.RowKit
set_option maxRecDepth 100000

/-! ## Plain -/

theorem head_is {first : Int} {p : Nat} {c : PCe} (h0 : 0 ≤ first) (h1 : first + (p : Int) ≤ 4294967295) : wIs (wordOf first p c) = decide (c.1 = 0) := by
  unfold wordOf wIs
  by_cases h : c.1 = 0
  · rw [if_pos h, decide_eq_true h]
    apply decide_eq_true
    unfold wInt
    omega
  · rw [if_neg h, decide_eq_false h]
    apply decide_eq_false
    unfold wPlace
    rw [if_neg (by omega)]
    omega
/-- What the words tell: each one's message goes out of the objects. -/
def BkQ (first : Int) (obs : List Ob) (ws : List Int) (qs : List MsE) : Prop :=
  ws.length = qs.length ∧ ∀ (i : Nat) (x : Int) (q : MsE), ws[i]? = some x → qs[i]? = some q → outL first obs [x] q.2.2 ∧ goodMs q.2.2 = true ∧ fitW x ∧ ∃ (c : PCe) (r : List PCe), q.2.2 = c :: r ∧ wIs x = decide (c.1 = 0)
theorem BkQ.nil (first : Int) (obs : List Ob) : BkQ first obs [] [] := ⟨rfl, fun i x q h => by simp at h⟩
theorem BkQ.more {first : Int} {obs : List Ob} {ws : List Int} {qs : List MsE} (h : BkQ first obs ws qs) (X : List Ob) : BkQ first (obs ++ X) ws qs :=
  ⟨h.1, fun i x q hx hq => by obtain ⟨h1, h2⟩ := h.2 i x q hx hq; exact ⟨outL_append X _ _ h1, h2⟩⟩
theorem BkQ.snoc {first : Int} {obs : List Ob} {ws : List Int} {qs : List MsE} (h : BkQ first obs ws qs) {x : Int} {q : MsE} (h1 : outL first obs [x] q.2.2) (h2 : goodMs q.2.2 = true) (h3 : fitW x) {c : PCe} {r : List PCe} (h4 : q.2.2 = c :: r) (h5 : wIs x = decide (c.1 = 0)) :
    BkQ first obs (ws ++ [x]) (qs ++ [q]) := by
  refine ⟨by simp [h.1], fun i x' q' hx hq => ?_⟩
  by_cases hi : i < ws.length
  · rw [List.getElem?_append_left hi] at hx
    rw [List.getElem?_append_left (by rw [← h.1]; exact hi)] at hq
    exact h.2 i x' q' hx hq
  · have hl : i = ws.length := by have := (List.getElem?_eq_some_iff.1 hx).1; simp at this; omega
    subst hl
    rw [List.getElem?_append_right (Nat.le_refl _), Nat.sub_self] at hx
    rw [h.1, List.getElem?_append_right (Nat.le_refl _), Nat.sub_self] at hq
    simp at hx hq
    subst hx hq
    exact ⟨h1, h2, h3, c, r, h4, h5⟩

theorem objs_nums {A : Ar} (ok : A.Ok) {base half space top : Int} {obs : List Ob} (h : A.objs base half space top = some obs) : 8 ≤ half ∧ half ≤ 2000 ∧ 0 ≤ space ∧ space ≤ 1 ∧ 0 ≤ top ∧ top ≤ half ∧ 0 ≤ space * half ∧ space * half ≤ 2000 ∧ space * half + half ≤ 2 * half :=
  lies_nums (objs_ok ok h).2.2.2
theorem objs_len {A : Ar} (ok : A.Ok) {base half space top : Int} {obs : List Ob} (h : A.objs base half space top = some obs) : (A.region base).length = (2 * half).toNat :=
  region_length ok (lies_find (objs_ok ok h).2.2.2)
theorem objs_there {A : Ar} (ok : A.Ok) {base half space top : Int} {obs : List Ob} (h : A.objs base half space top = some obs) : A.there base = true := by
  unfold Ar.there
  rw [lies_find (objs_ok ok h).2.2.2]
  rfl
/-- What stood in the semispace stands there, whatever came behind it. -/
theorem semi_same {A B : Ar} (okA : A.Ok) (okB : B.Ok) {base half space t u : Int} {obs X : List Ob} (ha : A.objs base half space t = some obs) (hb : B.objs base half space u = some (obs ++ X)) :
    ((A.region base).drop (space * half).toNat).take t.toNat = ((B.region base).drop (space * half).toNat).take t.toNat := by
  have h1 := (objs_ok okA ha).2.2.1
  have h2 := (objs_ok okB hb).2.2.1
  have ht := (objs_top okA ha).1
  have hu := (objs_top okB hb).1
  have hle : t.toNat ≤ u.toNat := by
    have : (flat obs).length ≤ (flat (obs ++ X)).length := by simp [flat]
    omega
  unfold Ar.semi at h1 h2
  rw [h1]
  have e : ((B.region base).drop (space * half).toNat).take t.toNat = (((B.region base).drop (space * half).toNat).take u.toNat).take t.toNat := by
    rw [List.take_take, Nat.min_eq_left hle]
  rw [e, h2, show t.toNat = (flat obs).length by omega]
  have hf : flat (obs ++ X) = flat obs ++ flat X := by simp [flat]
  rw [hf, List.take_left]

/-! ## What In tells, each way -/

theorem back_yes {A : Ar} {base half space top : Int} {obs : List Ob} {m : List PCe} {w w' : World} {p : Nat} {F : Nat → Prop} {e : Ending} (ok : A.Ok) (ho : A.objs base half space top = some obs) (hg : goodMs m = true) (hw : (wordsM m : Int) ≤ half - top) {tp : Int} (ht : top + (wordsM m : Int) = tp) (h : InT A base half space top m p F w e w') :
    Step F F w w' ∧ ∃ A' X w0, e = .returned (.tuple #[heapV base half space tp, .int .u64 w0, .bool true]) ∧ Held w' p F A' ∧ A'.objs base half space tp = some (obs ++ X) ∧ outL (space * half) (obs ++ X) [w0] m ∧ fitW w0 ∧ ∃ c r, m = c :: r ∧ wIs w0 = decide (c.1 = 0) := by
  obtain ⟨hs, h⟩ := h
  refine ⟨hs, ?_⟩
  rcases h with ⟨obs', A', X, w0, h1, _, _, h4, h5, h6, h7, h8, c, r, hm, h10⟩ | ⟨h1, _⟩
  · rw [ho] at h1
    cases h1
    rw [ht] at h4 h6
    obtain ⟨t1, t2, t3, t4, t5⟩ := objs_top ok ho
    exact ⟨A', X, w0, h4, h5, h6, h7, by rw [h10]; exact wordOf_fit _ _ _ t2 (by omega), c, r, hm, by rw [h10]; exact head_is t2 (by omega)⟩
  · rw [ho, hg] at h1
    simp at h1
    omega
theorem back_no {A : Ar} {base half space top : Int} {m : List PCe} {w w' : World} {p : Nat} {F : Nat → Prop} {e : Ending} (hg : (goodMs m && decide ((wordsM m : Int) ≤ half - top)) = false) (h : InT A base half space top m p F w e w') :
    Step F F w w' ∧ e = .returned (.tuple #[heapV 0 0 0 0, .int .u64 0, .bool false]) ∧ Held w' p F A := by
  obtain ⟨hs, h⟩ := h
  refine ⟨hs, ?_⟩
  rcases h with ⟨obs', A', X, w0, h1, h2, h3, _⟩ | ⟨_, h2, h3⟩
  · rw [h2, decide_eq_true h3] at hg
    simp at hg
  · exact ⟨h2, h3⟩

/-! ## In memory -/

theorem owns_apart {w : World} {B B' : Nat} {e e' : TypeId} {s s' : Nat} {v v' : Value} {n n' : Nat} {xs xs' : List Value} (h : w.ownsRow B e s v n xs) (h' : w.ownsRow B' e' s' v' n' xs') (hne : e ≠ e') : ∀ g, v.ownBlock = some g → v'.ownBlock ≠ some g := by
  rcases owns_parts h with ⟨rfl, _⟩ | ⟨g, cap, rest, rfl, _, hr, _⟩
  · intro g hg; cases hg
  · rcases owns_parts h' with ⟨rfl, _⟩ | ⟨g', cap', rest', rfl, _, hr', _⟩
    · intro k _ hk; cases hk
    · intro k hk hk'
      have e1 : g = k := by simpa [Value.ownBlock] using hk
      have e2 : g' = k := by simpa [Value.ownBlock] using hk'
      subst e1 e2
      unfold rowAt at hr hr'
      rw [hr] at hr'
      injection hr' with h1
      injection h1 with h2 h3
      exact hne h3
/-- The two lists that grow, with the arena and the heap's variable beside them. -/
structure Bk (w V : World) (p p2 b1 hb : Nat) (F : Nat → Prop) (A : Ar) (half space tp : Int) (vw vh : Value) (ws : List Int) (qs : List MsE) (W : World) : Prop where
  wd : Wd w p p2 b1 F A W
  up : Upon (fun k => F k ∨ k = hb) V W
  hp : rowAt W hb 24 [.int .i64 3, .int .i64 half, .int .i64 space, .int .i64 tp]
  hF : ¬ F hb
  hn : hb ≠ b1
  hw : w.heap.size ≤ hb
  hv : hb < V.heap.size
  bv : b1 < V.heap.size
  fv : ∀ k, F k → k < V.heap.size
  ow : W.ownsRow V.heap.size 42 1 vw ws.length (wordsL ws)
  oh : W.ownsRow V.heap.size 41 1 vh qs.length (msL qs)
section
variable {w V : World} {p p2 b1 hb : Nat} {F : Nat → Prop} {A A' : Ar} {half space tp : Int} {vw vh : Value} {ws : List Int} {qs : List MsE} {W W' : World}
theorem Bk.on (h : Bk w V p p2 b1 hb F A half space tp vw vh ws qs W) (hb' : Below W.heap.size W W') : Bk w V p p2 b1 hb F A half space tp vw vh ws qs W' :=
  ⟨h.wd.on hb', h.up.trans (Upon.of_below (S := fun _ => False) hb') (fun _ _ t => t.elim), h.hp.below hb' h.hp.lt, h.hF, h.hn, h.hw, h.hv, h.bv, h.fv, owns_upon h.ow (Upon.of_below (S := fun _ => False) hb') (fun _ _ t => t), owns_upon h.oh (Upon.of_below (S := fun _ => False) hb') (fun _ _ t => t)⟩
theorem Bk.step (h : Bk w V p p2 b1 hb F A half space tp vw vh ws qs W) (hs : Step F F W W') (hh : Held W' p F A') : Bk w V p p2 b1 hb F A' half space tp vw vh ws qs W' :=
  ⟨h.wd.step hs hh, h.up.trans hs.upon (fun _ _ t => .inl t), h.hp.upon hs.upon h.hF, h.hF, h.hn, h.hw, h.hv, h.bv, h.fv,
    owns_upon h.ow hs.upon (fun g hg hf => by have := (h.ow.lt g hg).1; have := h.fv g hf; omega), owns_upon h.oh hs.upon (fun g hg hf => by have := (h.oh.lt g hg).1; have := h.fv g hf; omega)⟩
theorem Bk.heap (h : Bk w V p p2 b1 hb F A half space tp vw vh ws qs W) (tp' : Int) :
    Bk w V p p2 b1 hb F A half space tp' vw vh ws qs ((((W.setCell ⟨hb, 0, none⟩ (.int .i64 3)).setCell ⟨hb, 1, none⟩ (.int .i64 half)).setCell ⟨hb, 2, none⟩ (.int .i64 space)).setCell ⟨hb, 3, none⟩ (.int .i64 tp')) := by
  have hu : Upon (fun k => k = hb) W _ := upon_set4 (S := fun k => k = hb) (w := W) (b := hb) rfl (a := .int .i64 3) (c := .int .i64 half) (d := .int .i64 space) (e := .int .i64 tp')
  exact ⟨h.wd.set h.hF h.hn.symm h.hw, h.up.trans hu (fun _ _ e => .inr e), row_set4 h.hp, h.hF, h.hn, h.hw, h.hv, h.bv, h.fv,
    owns_upon h.ow hu (fun g hg e => by have := (h.ow.lt g hg).1; have := h.hv; omega), owns_upon h.oh hu (fun g hg e => by have := (h.oh.lt g hg).1; have := h.hv; omega)⟩
/-- A list of one's own grew: what lies below stands. -/
theorem Bk.grow (h : Bk w V p p2 b1 hb F A half space tp vw vh ws qs W) {S : Nat → Prop} (hu : Upon S W W') (hS : ∀ k, S k → V.heap.size ≤ k) {vw' vh' : Value} {ws' : List Int} {qs' : List MsE}
    (how : W'.ownsRow V.heap.size 42 1 vw' ws'.length (wordsL ws')) (hoh : W'.ownsRow V.heap.size 41 1 vh' qs'.length (msL qs')) : Bk w V p p2 b1 hb F A half space tp vw' vh' ws' qs' W' := by
  have hV : w.heap.size ≤ V.heap.size := Nat.le_trans h.hw (Nat.le_of_lt h.hv)
  have hVW := h.up.size
  refine ⟨⟨h.wd.held.upon hu fun k hk hs => by have := h.fv k hk; have := hS k hs; omega, h.wd.two.upon hu fun hs => by have := h.bv; have := hS _ hs; omega, h.wd.nb, h.wd.lo, h.wd.fl, h.wd.below.trans (hu.belowB h.wd.below.size fun k hs => Nat.le_trans hV (hS k hs))⟩,
    h.up.trans hu (fun i hi hs => by have := hS i hs; omega), h.hp.upon hu (fun hs => by have := h.hv; have := hS _ hs; omega), h.hF, h.hn, h.hw, h.hv, h.bv, h.fv, how, hoh⟩
end
section
variable {w V : World} {p p2 b1 hb : Nat} {F : Nat → Prop} {A A' : Ar} {half space tp : Int} {vw vh : Value} {ws : List Int} {qs : List MsE} {W W' : World} {wg wc hg hc : Nat}
theorem Bk.drew (h : Bk w V p p2 b1 hb F A half space tp vw vh ws qs W) : Bk w V p p2 b1 hb F A half space tp vw vh ws qs W.drew := h.on (bl_drew (Below.refl _ _))
theorem Bk.al (h : Bk w V p p2 b1 hb F A half space tp vw vh ws qs W) (o : Obj) : Bk w V p p2 b1 hb F A half space tp vw vh ws qs (W.alloc o) := h.on (bl_alloc (Below.refl _ _) _)
/-- Four cells of a block that is none of these. -/
theorem Bk.setN {W0 : World} {A0 : Ar} {tp0 : Int} (h : Bk w V p p2 b1 hb F A half space tp vw vh ws qs W) (h0 : Bk w V p p2 b1 hb F A0 half space tp0 vw vh ws qs W0) {gb : Nat} (hg : W0.heap.size ≤ gb) {a c d e : Value} :
    Bk w V p p2 b1 hb F A half space tp vw vh ws qs ((((W.setCell ⟨gb, 0, none⟩ a).setCell ⟨gb, 1, none⟩ c).setCell ⟨gb, 2, none⟩ d).setCell ⟨gb, 3, none⟩ e) := by
  have hu : Upon (fun k => k = gb) W _ := upon_set4 (S := fun k => k = gb) (w := W) (b := gb) rfl (a := a) (c := c) (d := d) (e := e)
  have hV := h0.up.size
  exact h.grow hu (fun k e => by omega) (owns_upon h.ow hu (fun g hk e => by have := (h0.ow.lt g hk).2; omega)) (owns_upon h.oh hu (fun g hk e => by have := (h0.oh.lt g hk).2; omega))
/-- An element of a list that was there when the call began. -/
theorem rd_el {S : Nat → Prop} {w : World} {lb lo lc n : Nat} {cs : List Value} (h : rdAt S w (.slice (some ⟨lb, lo, none⟩) n lc) n cs) {i : Nat} (hi : i < n) {x : Value} (hx : cs[i]? = some x) : w.cell? ⟨lb, lo + i, none⟩ = some x := by
  obtain ⟨a, c, e, h⟩ := h
  cases e
  rcases h with h | ⟨b, o, e, _, _, hc⟩
  · omega
  · cases e; exact hc i x hx
theorem Bk.cells (h : Bk w V p p2 b1 hb F A half space tp vw vh ws qs W) {lb lo lc : Nat} {l : List MsE} (HL : rdAt (fun k => w.heap.size ≤ k) w (.slice (some ⟨lb, lo, none⟩) l.length lc) l.length (msL l)) {i : Nat} {xa : Option Addr} {xc : Nat} {m : List PCe} (hx : l[i]? = some (xa, xc, m)) :
    W.cell? ⟨b1, 0, none⟩ = some (.pointer (some ⟨p, 0, none⟩)) ∧ W.cell? ⟨hb, 0, none⟩ = some (.int .i64 3) ∧ W.cell? ⟨hb, 1, none⟩ = some (.int .i64 half) ∧ W.cell? ⟨hb, 2, none⟩ = some (.int .i64 space) ∧ W.cell? ⟨hb, 3, none⟩ = some (.int .i64 tp) ∧ W.cell? ⟨lb, lo + i, none⟩ = some (.slice xa m.length xc) :=
  ⟨(h.wd.two.cell 0).trans rfl, (h.hp.cell 0).trans rfl, (h.hp.cell 1).trans rfl, (h.hp.cell 2).trans rfl, (h.hp.cell 3).trans rfl, rd_el (HL.below h.wd.below) (List.getElem?_eq_some_iff.1 hx).1 (msL_get hx)⟩
theorem Bk.cellsG (h : Bk w V p p2 b1 hb F A half space tp vw vh ws qs W) {lb lo lc : Nat} {l : List MsE} (HL : rdAt (fun k => w.heap.size ≤ k) w (.slice (some ⟨lb, lo, none⟩) l.length lc) l.length (msL l)) {i : Nat} {xa : Option Addr} {xc : Nat} {m : List PCe} (hx : l[i]? = some (xa, xc, m)) {gb : Nat} {g0 g1 g2 g3 : Int} (hg : rowAt W gb 24 [.int .i64 g0, .int .i64 g1, .int .i64 g2, .int .i64 g3]) :
    W.cell? ⟨b1, 0, none⟩ = some (.pointer (some ⟨p, 0, none⟩)) ∧ W.cell? ⟨hb, 3, none⟩ = some (.int .i64 tp) ∧ W.cell? ⟨lb, lo + i, none⟩ = some (.slice xa m.length xc) ∧ W.cell? ⟨gb, 0, none⟩ = some (.int .i64 g0) ∧ W.cell? ⟨gb, 1, none⟩ = some (.int .i64 g1) ∧ W.cell? ⟨gb, 2, none⟩ = some (.int .i64 g2) ∧ W.cell? ⟨gb, 3, none⟩ = some (.int .i64 g3) := by
  obtain ⟨h1, _, _, _, h5, h6⟩ := h.cells HL hx
  exact ⟨h1, h5, h6, (hg.cell 0).trans rfl, (hg.cell 1).trans rfl, (hg.cell 2).trans rfl, (hg.cell 3).trans rfl⟩
/-- The words' and the messages' cells at j, with what stands at the message's head, and the arena's and the heap's. -/
theorem Bk.cellsQ (h : Bk w V p p2 b1 hb F A half space tp (.slice (some ⟨wg, 0, none⟩) ws.length wc) (.slice (some ⟨hg, 0, none⟩) qs.length hc) ws qs W) {j : Nat} {x : Int} {xa : Option Addr} {xc : Nat} {m : List PCe} (hx : ws[j]? = some x) (hq : qs[j]? = some (xa, xc, m)) :
    W.cell? ⟨b1, 0, none⟩ = some (.pointer (some ⟨p, 0, none⟩)) ∧ W.cell? ⟨hb, 0, none⟩ = some (.int .i64 3) ∧ W.cell? ⟨hb, 1, none⟩ = some (.int .i64 half) ∧ W.cell? ⟨hb, 2, none⟩ = some (.int .i64 space) ∧ W.cell? ⟨hb, 3, none⟩ = some (.int .i64 tp) ∧ W.cell? ⟨wg, j, none⟩ = some (.int .u64 x) ∧ W.cell? ⟨hg, j, none⟩ = some (.slice xa m.length xc) := by
  refine ⟨(h.wd.two.cell 0).trans rfl, (h.hp.cell 0).trans rfl, (h.hp.cell 1).trans rfl, (h.hp.cell 2).trans rfl, (h.hp.cell 3).trans rfl, ?_, ?_⟩
  · rcases owns_parts h.ow with ⟨e, _⟩ | ⟨g, cap, rest, e, _, hr, _⟩
    · cases e
    · cases e
      rw [hr.cell, List.getElem?_append_left (by have := (List.getElem?_eq_some_iff.1 hx).1; simpa using this)]
      simp [wordsL, hx]
  · rcases owns_parts h.oh with ⟨e, _⟩ | ⟨g, cap, rest, e, _, hr, _⟩
    · cases e
    · cases e
      rw [hr.cell, List.getElem?_append_left (by have := (List.getElem?_eq_some_iff.1 hq).1; simpa [msL] using this)]
      exact msL_get hq
theorem own_addr {B n c : Nat} {T : TypeId} {a : Option Addr} {xs : List Value} (h : W.ownsRow B T 1 (.slice a n c) n xs) (hn : n ≠ 0) : ∃ g, a = some ⟨g, 0, none⟩ := by
  rcases owns_parts h with ⟨_, h1, _⟩ | ⟨g, cap, rest, e, _⟩
  · omega
  · cases e; exact ⟨g, rfl⟩
theorem rd_addr {S : Nat → Prop} {w : World} {a : Option Addr} {n c : Nat} {cs : List Value} (h : rdAt S w (.slice a n c) n cs) (hn : n ≠ 0) : ∃ b o, a = some ⟨b, o, none⟩ := by
  obtain ⟨a', c', e, h⟩ := h
  cases e
  rcases h with h | ⟨b, o, e, _⟩
  · omega
  · exact ⟨b, o, e⟩
theorem Bk.msg (h : Bk w V p p2 b1 hb F A half space tp vw vh ws qs W) {x : MsE} (hm : rdAt (fun k => w.heap.size ≤ k) w (msV x) x.2.2.length (ceL x.2.2)) : rdAt F W (msV x) x.2.2.length (ceL x.2.2) := (hm.below h.wd.below).off (fun k _ hf => h.wd.fl k hf)
end

/-- What In tells of a message, both ways: the arena, the heap, the word, whether it is there. -/
def InR (A : Ar) (half space top : Int) (obs : List Ob) (m : List PCe) (A' : Ar) (g0 g1 g2 g3 w0 : Int) (b : Bool) : Prop :=
  (b = true ∧ goodMs m = true ∧ (wordsM m : Int) ≤ half - top ∧ 3 = g0 ∧ half = g1 ∧ space = g2 ∧ top + (wordsM m : Int) = g3 ∧ ∃ X, A'.objs 3 half space g3 = some (obs ++ X) ∧ outL (space * half) (obs ++ X) [w0] m ∧ fitW w0 ∧ ∃ c r, m = c :: r ∧ wIs w0 = decide (c.1 = 0)) ∨
  (b = false ∧ (goodMs m && decide ((wordsM m : Int) ≤ half - top)) = false ∧ A = A')
def InPost (w V : World) (p p2 b1 hb : Nat) (F : Nat → Prop) (A : Ar) (half space tp : Int) (obs : List Ob) (m : List PCe) (vw vh : Value) (ws : List Int) (qs : List MsE) (W : World) (e : Ending) (w' : World) : Prop :=
  ∃ A' g0 g1 g2 g3 w0 b, e = .returned (.tuple #[heapV g0 g1 g2 g3, .int .u64 w0, .bool b]) ∧ Bk w V p p2 b1 hb F A' half space tp vw vh ws qs w' ∧ Step F F W w' ∧ InR A half space tp obs m A' g0 g1 g2 g3 w0 b
theorem in_both {w V : World} {p p2 b1 hb : Nat} {F : Nat → Prop} {A : Ar} {half space tp : Int} {obs : List Ob} {vw vh : Value} {ws : List Int} {qs : List MsE} {W : World} (h : Bk w V p p2 b1 hb F A half space tp vw vh ws qs W) (ho : A.objs 3 half space tp = some obs)
    {a : Option Addr} {cap : Nat} {m : List PCe} (hm : rdAt (fun k => w.heap.size ≤ k) w (.slice a m.length cap) m.length (ceL m)) (hcap : m.length ≤ cap) :
    Calls Tryz.prog 10 #[.pointer (some ⟨p, 0, none⟩), .agg #[.int .i64 3, .int .i64 half, .int .i64 space, .int .i64 tp], .slice a m.length cap] W (InPost w V p p2 b1 hb F A half space tp obs m vw vh ws qs W) := by
  refine (dIn_any h.wd.held 3 half space tp (h.msg (x := (a, cap, m)) hm) hcap).mono ?_
  intro e w' hin
  have ok := h.wd.held.ok
  cases hg : (goodMs m && decide ((wordsM m : Int) ≤ half - tp)) with
  | true =>
    have h1 : goodMs m = true ∧ (wordsM m : Int) ≤ half - tp := by simpa using hg
    obtain ⟨hs, A', X, w0, rfl, hh, ho', hl, hf, hc⟩ := back_yes ok ho h1.1 h1.2 rfl hin
    exact ⟨A', _, _, _, _, w0, true, rfl, h.step hs hh, hs, .inl ⟨rfl, h1.1, h1.2, rfl, rfl, rfl, rfl, X, ho', hl, hf, hc⟩⟩
  | false =>
    obtain ⟨hs, rfl, hh⟩ := back_no hg hin
    exact ⟨A, _, _, _, _, 0, false, rfl, h.step hs hh, hs, .inr ⟨rfl, hg, rfl⟩⟩
/-- Behind In: the new heap's variable, the word, the flag. -/
def CutBk (w V : World) (p p2 b1 hb : Nat) (F : Nat → Prop) (A : Ar) (half space tp : Int) (obs : List Ob) (m : List PCe) (vw vh : Value) (ws : List Int) (qs : List MsE) (v14 v15 v16 : Value) (wx : World) : Prop :=
  ∃ gb A' g0 g1 g2 g3 w0 b, v14 = .pointer (some ⟨gb, 0, none⟩) ∧ v15 = .int .u64 w0 ∧ v16 = .bool b ∧ Bk w V p p2 b1 hb F A' half space tp vw vh ws qs wx ∧ rowAt wx gb 24 [.int .i64 g0, .int .i64 g1, .int .i64 g2, .int .i64 g3] ∧ ¬ F gb ∧ hb ≠ gb ∧ InR A half space tp obs m A' g0 g1 g2 g3 w0 b
section
variable {w V : World} {p p2 b1 hb : Nat} {F : Nat → Prop} {A A' : Ar} {half space tp : Int} {obs : List Ob} {m : List PCe} {vw vh : Value} {ws : List Int} {qs : List MsE} {W W0 : World} {g0 g1 g2 g3 w0 : Int} {b : Bool}
theorem cutBk_last (K : Bk w V p p2 b1 hb F A' half space tp vw vh ws qs W) (hI : InR A half space tp obs m A' g0 g1 g2 g3 w0 b) :
    CutBk w V p p2 b1 hb F A half space tp obs m vw vh ws qs (.pointer (some ⟨W.heap.size, 0, none⟩)) (.int .u64 w0) (.bool b) (W.alloc (.cells #[.int .i64 g0, .int .i64 g1, .int .i64 g2, .int .i64 g3] 24)) :=
  ⟨_, A', g0, g1, g2, g3, w0, b, rfl, rfl, rfl, K.al _, rowAt.made _ _ _, fun hf => by have := K.wd.held.lt _ hf; omega, by have := K.hp.lt; omega, hI⟩
theorem cutBk_set (K : Bk w V p p2 b1 hb F A' half space tp vw vh ws qs W) (K0 : Bk w V p p2 b1 hb F A half space tp vw vh ws qs W0) {gb : Nat} (hg : W0.heap.size ≤ gb) {a c d e : Value} (hz : rowAt W gb 24 [a, c, d, e]) (hI : InR A half space tp obs m A' g0 g1 g2 g3 w0 b) :
    CutBk w V p p2 b1 hb F A half space tp obs m vw vh ws qs (.pointer (some ⟨gb, 0, none⟩)) (.int .u64 w0) (.bool b) ((((W.setCell ⟨gb, 0, none⟩ (.int .i64 g0)).setCell ⟨gb, 1, none⟩ (.int .i64 g1)).setCell ⟨gb, 2, none⟩ (.int .i64 g2)).setCell ⟨gb, 3, none⟩ (.int .i64 g3)) :=
  ⟨gb, A', g0, g1, g2, g3, w0, b, rfl, rfl, rfl, K.setN K0 hg, row_set4 hz, fun hf => by have := K0.wd.held.lt _ hf; omega, by have := K0.hp.lt; omega, hI⟩
end

/-- The two lists, with the rows of one element that are laid for the appends. -/
structure TwB (w V : World) (p p2 b1 hb : Nat) (F : Nat → Prop) (A : Ar) (half space tp : Int) (vw vh : Value) (ws : List Int) (qs : List MsE) (E : List (Nat × TypeId × List Value)) (W : World) : Prop where
  k : Bk w V p p2 b1 hb F A half space tp vw vh ws qs W
  ex : ∀ r ∈ E, rowAt W r.1 r.2.1 r.2.2 ∧ vw.ownBlock ≠ some r.1 ∧ vh.ownBlock ≠ some r.1 ∧ V.heap.size ≤ r.1
section
variable {w V : World} {p p2 b1 hb : Nat} {F : Nat → Prop} {A : Ar} {half space tp : Int} {vw vh : Value} {ws : List Int} {qs : List MsE} {E : List (Nat × TypeId × List Value)} {W : World}
theorem TwB.start (h : Bk w V p p2 b1 hb F A half space tp vw vh ws qs W) : TwB w V p p2 b1 hb F A half space tp vw vh ws qs [] W := ⟨h, fun r hr => by cases hr⟩
theorem TwB.alloc (h : TwB w V p p2 b1 hb F A half space tp vw vh ws qs E W) (T : TypeId) (xs : List Value) : TwB w V p p2 b1 hb F A half space tp vw vh ws qs ((W.heap.size, T, xs) :: E) (W.alloc (.cells ⟨xs⟩ T)) := by
  refine ⟨h.k.al _, fun r hr => ?_⟩
  rcases List.mem_cons.1 hr with rfl | hr
  · exact ⟨rowAt.made W T xs, fun e => by have := (h.k.ow.lt _ e).2; simp at this, fun e => by have := (h.k.oh.lt _ e).2; simp at this, h.k.up.size⟩
  · obtain ⟨h1, h2⟩ := h.ex r hr
    exact ⟨h1.alloc _, h2⟩
theorem TwB.drew (h : TwB w V p p2 b1 hb F A half space tp vw vh ws qs E W) : TwB w V p p2 b1 hb F A half space tp vw vh ws qs E W.drew := ⟨h.k.drew, h.ex⟩
theorem TwB.app_w {W' : World} {v' : Value} {x : Int} (h : TwB w V p p2 b1 hb F A half space tp vw vh ws qs E W) (ho : W'.ownsRow V.heap.size 42 1 v' (ws.length + 1) (wordsL ws ++ [.int .u64 x])) (hg : W.grownBy W' vw.ownBlock) (hb' : v'.ownBlock = vw.ownBlock ∨ v'.ownBlock = some W.heap.size) :
    TwB w V p p2 b1 hb F A half space tp v' vh (ws ++ [x]) qs E W' := by
  have hu := grown_upon hg
  refine ⟨h.k.grow hu (fun k e => (h.k.ow.lt k e).1) ?_ (owns_upon h.k.oh hu fun g e e2 => owns_apart h.k.ow h.k.oh (by decide) g e2 e), fun r hr => ?_⟩
  · rw [List.length_append, show wordsL (ws ++ [x]) = wordsL ws ++ [.int .u64 x] by simp [wordsL]]; exact ho
  · obtain ⟨h1, h2, h3, h4⟩ := h.ex r hr
    refine ⟨h1.upon hu fun e => h2 e, fun e => ?_, h3, h4⟩
    rcases hb' with hb' | hb'
    · exact h2 (hb' ▸ e)
    · rw [hb'] at e; have e2 := Option.some.inj e; have := h1.lt; omega
theorem TwB.app_h {W' : World} {v' : Value} {x : MsE} (h : TwB w V p p2 b1 hb F A half space tp vw vh ws qs E W) (ho : W'.ownsRow V.heap.size 41 1 v' (qs.length + 1) (msL qs ++ [msV x])) (hg : W.grownBy W' vh.ownBlock) (hb' : v'.ownBlock = vh.ownBlock ∨ v'.ownBlock = some W.heap.size) :
    TwB w V p p2 b1 hb F A half space tp vw v' ws (qs ++ [x]) E W' := by
  have hu := grown_upon hg
  refine ⟨h.k.grow hu (fun k e => (h.k.oh.lt k e).1) (owns_upon h.k.ow hu fun g e e2 => owns_apart h.k.ow h.k.oh (by decide) g e e2) ?_, fun r hr => ?_⟩
  · rw [List.length_append, show msL (qs ++ [x]) = msL qs ++ [msV x] by simp [msL]]; exact ho
  · obtain ⟨h1, h2, h3, h4⟩ := h.ex r hr
    refine ⟨h1.upon hu fun e => h3 e, h2, fun e => ?_, h4⟩
    rcases hb' with hb' | hb'
    · exact h3 (hb' ▸ e)
    · rw [hb'] at e; have e2 := Option.some.inj e; have := h1.lt; omega
theorem info_msg : (Tryz.prog.info? 41).map (fun i => (i.zero, i.size, i.bytes)) = some (some (.slice none 0 0), 1, 24) := by kernel_rfl
theorem info_u64k : (Tryz.prog.info? 42).map (fun i => (i.zero, i.size, i.bytes)) = some (some (.int .u64 0), 1, 8) := by kernel_rfl
theorem under_u64s : Tryz.prog.underlying 22 = some (.slice 42) := by kernel_rfl
theorem under_mss : Tryz.prog.underlying 27 = some (.slice 41) := by kernel_rfl
theorem row_srcK {w : World} {b : Nat} {T : TypeId} {xs : List Value} (h : rowAt w b T xs) (m : Nat) : m = 0 ∨ ∃ ad, (some (⟨b, 0, none⟩ : Addr)) = some ad ∧ ∀ j u, xs[j]? = some u → w.cell? (ad.add j) = some u := by
  refine .inr ⟨_, rfl, fun j u hj => ?_⟩
  rw [Addr.add_lit, Nat.zero_add, h.cell]
  exact hj
theorem step_aw {ops : Array Oper} {o : Oper} {a : Act} {K : Act → World → Prop} {Q : Exit → Act → World → Prop} {Ep : Prop} (hgd : o.guard = none) (s x : Operand)
    (ho : o.op = .call { callee := .builtin .append, args := #[s, x], argTypes := #[22, 22] }) (b c : Nat) (z : Int)
    (h : TwB w V p p2 b1 hb F A half space tp vw vh ws qs E W) (hs : a.eval s = vw) (hx : a.eval x = .slice (some ⟨b, 0, none⟩) 1 c) (hE : (b, 42, [Value.int .u64 z]) ∈ E) (hn : ws.length ≤ 10)
    (k : ∀ v' w', TwB w V p p2 b1 hb F A half space tp v' vh (ws ++ [z]) qs E w' → K (a.put o.dst v') w') :
    if Region.wanted o (yielded ops a.tmps) = true then Oper.wp Tryz.prog o a W K Q else Ep := by
  obtain ⟨i0, hi, hz0, hz1, hz2⟩ := info_parts info_u64k
  exact step_append_w hgd s x _ ho V.heap.size 42 i0 (.int .u64 0) 1 8 under_u64s hi hz0 hz1 hz2 (by rfl) (by decide) vw ws.length (wordsL ws) hs h.k.ow (some ⟨b, 0, none⟩) 1 c [.int .u64 z] hx rfl (row_srcK (h.ex _ hE).1 1) (words_one [z]) (by simp only [maxLen]; omega) (by omega) h.k.up.size
    fun v' w' h1 h2 h3 => k v' w' (h.app_w h1 h2 h3)
theorem step_ah {ops : Array Oper} {o : Oper} {a : Act} {K : Act → World → Prop} {Q : Exit → Act → World → Prop} {Ep : Prop} (hgd : o.guard = none) (s x : Operand)
    (ho : o.op = .call { callee := .builtin .append, args := #[s, x], argTypes := #[27, 27] }) (b c : Nat) (z : MsE)
    (h : TwB w V p p2 b1 hb F A half space tp vw vh ws qs E W) (hs : a.eval s = vh) (hx : a.eval x = .slice (some ⟨b, 0, none⟩) 1 c) (hE : (b, 41, [msV z]) ∈ E) (hn : qs.length ≤ 10)
    (k : ∀ v' w', TwB w V p p2 b1 hb F A half space tp vw v' ws (qs ++ [z]) E w' → K (a.put o.dst v') w') :
    if Region.wanted o (yielded ops a.tmps) = true then Oper.wp Tryz.prog o a W K Q else Ep := by
  obtain ⟨i0, hi, hz0, hz1, hz2⟩ := info_parts info_msg
  exact step_append_w hgd s x _ ho V.heap.size 41 i0 (.slice none 0 0) 1 24 under_mss hi hz0 hz1 hz2 (by rfl) (by decide) vh qs.length (msL qs) hs h.k.oh (some ⟨b, 0, none⟩) 1 c [msV z] hx rfl (row_srcK (h.ex _ hE).1 1) (msL_one (l := [z])) (by simp only [maxLen]; omega) (by omega) h.k.up.size
    fun v' w' h1 h2 h3 => k v' w' (h.app_h h1 h2 h3)
/-- What a round of the first loop leaves. -/
theorem rel_in {A : Ar} {obs X : List Ob} {l : List MsE} {i : Nat} (h : TwB w V p p2 b1 hb F A half space tp vw vh ws qs E W) (ho : A.objs 3 half space tp = some (obs ++ X)) (hq : BkQ (space * half) (obs ++ X) ws qs) (hi : ws.length ≤ i) (hm : ∀ q ∈ qs, q ∈ l) (hil : i ≤ l.length) (v : Value) (hv : v = .int .i64 i) :
    ∃ (i : Nat) (A : Ar) (tp : Int) (ws : List Int) (qs : List MsE) (wa : Option Addr) (cw : Nat) (ha : Option Addr) (ch : Nat) (X : List Ob), v = .int .i64 i ∧ vw = .slice wa ws.length cw ∧ vh = .slice ha qs.length ch ∧ i ≤ l.length ∧ Hid (Bk w V p p2 b1 hb F A half space tp (.slice wa ws.length cw) (.slice ha qs.length ch) ws qs W) ∧ Hid (A.objs 3 half space tp = some (obs ++ X)) ∧ Hid (BkQ (space * half) (obs ++ X) ws qs) ∧ Hid (ws.length ≤ i ∧ ∀ q ∈ qs, q ∈ l) := by
  obtain ⟨wa, cw, e1⟩ := owns_slice h.k.ow
  obtain ⟨ha, ch, e2⟩ := owns_slice h.k.oh
  have hk := h.k
  subst e1 e2
  exact ⟨i, A, tp, ws, qs, wa, cw, ha, ch, X, hv, rfl, rfl, hil, Lib.hid hk, Lib.hid ho, Lib.hid hq, Lib.hid ⟨hi, hm⟩⟩
end
end Go.Proofs.YtnjpjhlodamanaaGreatDoor

/-
  For every region's words, heap and messages the law DataBack returns true, and its arguments read as they did. Condition: the three tables of package op read when the call begins as the program's text lays them (the card ties them).
-/
namespace Go.Proofs.YtnjpjhlodamanaaGreatDoor.dataBack
set_option linter.unusedVariables false
set_option linter.unusedSimpArgs false
open Go.ChangeShapes Go.WideShapes Go.ChangeAt Go.RowKit
set_option maxRecDepth 100000

theorem own : ownKnob Tryz.prog.godebug = none := by kernel_rfl
theorem laidOut : laidOutB Tryz.prog = true := by kernel_rfl

theorem wf_fitW {x : Int} (h : (Lit.int .u64 x).wf = true) : fitW x := by
  simp [Lit.wf, IntKind.min, IntKind.max, IntKind.signed, IntKind.bits] at h
  unfold fitW
  omega
theorem large_to (a : Option Addr) (n c : Nat) (z0 z1 z2 z3 : Int) (w : World) {b : Bool} (hb : decide (400 < n) = b) :
    Calls Tryz.prog 4 #[.agg #[.slice a n c, .int .i64 z0, .int .i64 z1, .int .i64 z2, .int .i64 z3]] w fun e w' => e = .returned (.bool b) ∧ Below w.heap.size w w' := by
  subst hb
  by_cases h : 400 < n
  · have HD := Lib.hid (show decide (400 < n) = true from decide_eq_true h)
    have h1 : (400 : Int) < (n : Int) := by omega
    go_enter Tryz.func4, Tryz.ntmps4
    go_wp2
    go_ret
    exact ⟨by rw [HD.out]; rfl, bl_alloc (Below.refl _ _) _⟩
  · have HD := Lib.hid (show decide (400 < n) = false from decide_eq_false h)
    have h1 : (n : Int) ≤ 400 := by omega
    go_enter Tryz.func4, Tryz.ntmps4
    go_wp2
    go_ret
    exact ⟨by show Ending.returned (.bool (decide ((400 : Int) < (n : Int)))) = _; rw [decide_eq_false (by omega)]; rw [HD.out], bl_alloc (Below.refl _ _) _⟩
theorem cells5 {w : World} {b : Nat} {T : TypeId} {a c d e f : Value} (h : rowAt w b T [a, c, d, e, f]) : w.cell? ⟨b, 0, none⟩ = some a ∧ w.cell? ⟨b, 1, none⟩ = some c ∧ w.cell? ⟨b, 2, none⟩ = some d ∧ w.cell? ⟨b, 3, none⟩ = some e ∧ w.cell? ⟨b, 4, none⟩ = some f :=
  ⟨h.cell 0, h.cell 1, h.cell 2, h.cell 3, h.cell 4⟩
theorem rgood_is {S : Nat → Prop} {w : World} {v : Value} {m : List PCe} {b : Bool} (hb : goodMs m = b) (h : rdAt S w v m.length (ceL m)) :
    Calls Tryz.prog 11 #[v] w fun e w' => e = .returned (.bool b) ∧ Below w.heap.size w w' := hb ▸ rgoodMs_any h
theorem rwords_is {S : Nat → Prop} {w : World} {v : Value} {m : List PCe} {n : Nat} (hn : wordsM m = n) (hg : goodMs m = true) (h : rdAt S w v m.length (ceL m)) :
    Calls Tryz.prog 12 #[v] w fun e w' => e = .returned (.int .i64 (n : Int)) ∧ Below w.heap.size w w' := hn ▸ rwordsM_any h hg
theorem good_is {w : World} {p : Nat} {F : Nat → Prop} {A : Ar} (hA : Held w p F A) (base half space top : Int) {b : Bool} (hb : (A.objs base half space top).isSome = b) :
    Calls Tryz.prog 7 #[.pointer (some ⟨p, 0, none⟩), heapV base half space top] w fun e w' => e = .returned (.bool b) ∧ Below w.heap.size w w' := hb ▸ good_any hA base half space top
theorem nil_or (l : List Int) : l.length = 0 ∨ 0 < (wordsL l).length := by cases l <;> simp
theorem run_win (b o : Nat) {n c k m : Nat} (hkm : k ≤ m) (hm : m ≤ c) : ∃ X, (k < c → X = some ⟨b, o + k, none⟩) ∧ ∀ w, (Instr.slice 22 (.slice (some ⟨b, o, none⟩) n c) (some (.int .i64 (k : Int))) (some (.int .i64 (m : Int))) none).run Tryz.prog w = .ok (.slice X (m - k) (c - k)) w := by
  obtain ⟨i0, hi, hz0, hz1, hz2⟩ := info_parts info_u64k
  refine ⟨if c = k then some ⟨b, o, none⟩ else some ⟨b, o + k, none⟩, fun h => by rw [if_neg (by omega)], fun w => ?_⟩
  have h1 : (0 : Int) ≤ k ∧ (k : Int) ≤ m := by omega
  have h2 : (0 : Int) ≤ m ∧ (m : Int) ≤ c := by omega
  by_cases h : c = k
  · simp [Instr.slice, Instr.sliceBounds, Instr.sliceBound, asIntOf, run_underlying under_u64s, sizeOf, typeInfo, hi, hz1, h, hkm, hm, Addr.add, show m ≤ k by omega]
  · simp [Instr.slice, Instr.sliceBounds, Instr.sliceBound, asIntOf, run_underlying under_u64s, sizeOf, typeInfo, hi, hz1, h, hkm, hm, Addr.add]
theorem win_reads {S : Nat → Prop} {w : World} {b o c n k m : Nat} {xs : List Int} (h : rdAt S w (.slice (some ⟨b, o, none⟩) n c) n (wordsL xs)) (hl : xs.length = n) (hkm : k ≤ m) (hmn : m ≤ n) (hn : n ≤ c) {X : Option Addr} (hX : k < c → X = some ⟨b, o + k, none⟩) {ys : List Int} (hy : ys = (xs.drop k).take (m - k)) {q : Nat} (hq : ys.length = q) (c' : Nat) :
    readsAt w (.slice X q c') q (wordsL ys) := by
  have hyl : ys.length = m - k := by rw [hy, List.length_take, List.length_drop]; omega
  refine ⟨X, c', rfl, ?_⟩
  by_cases h0 : m = k
  · left; omega
  · right
    refine ⟨b, o + k, hX (by omega), fun j u hj => ?_⟩
    have hjl : j < m - k := by have := (List.getElem?_eq_some_iff.1 hj).1; simp at this; omega
    have e : (wordsL xs)[k + j]? = some u := by
      rw [← hj, hy]
      simp [wordsL, List.getElem?_take, hjl, List.getElem?_drop]
    have := rd_el h (i := k + j) (by omega) e
    rw [Nat.add_assoc]; exact this
theorem msg_is {m : List PCe} {q : Nat} (hg : goodMs m = true) (hq : wordsM m = q) : wordsX m = q := by
  unfold wordsX
  rw [if_pos hg, hq]
theorem refIs_is (x : Int) (hx : fitW x) {b : Bool} (hb : wIs x = b) (w : World) : Calls Tryz.prog 16 #[.int .u64 x] w fun e w' => e = .returned (.bool b) ∧ w = w' := by
  subst hb
  exact refIs_any x hx.1 (by have := hx.2; omega) w
theorem keepWords_is {w : World} {u v : Value} {xs : List Int} {q : Nat} (hq : xs.length = q) (hu : readsAt w u q (wordsL xs)) (hv : readsAt w v q (wordsL xs)) (hx : q ≤ 140737488355328) :
    Calls Tryz.prog 17 #[u, v] w fun e w' => e = .returned (.bool true) ∧ Below w.heap.size w w' := by
  subst hq
  exact (keepWords_any hu hv hx).mono fun e w' ⟨he, q, hw⟩ => ⟨by simpa using he, by rw [hw]; exact below_draws (Below.refl _ _) q⟩
theorem out_yes {R : Option (List PCe)} {m : List PCe} {w w' : World} {e : Ending} (hR : R = some m) (h : OutT R w e w') :
    Below w.heap.size w w' ∧ ∃ oa oc, e = .returned (.tuple #[.slice oa m.length oc, .bool true]) ∧ w'.ownsRow w.heap.size 51 4 (.slice oa m.length oc) m.length (ceL m) := by
  obtain ⟨hb, h⟩ := h
  refine ⟨hb, ?_⟩
  rcases h with ⟨m', v, h3, h4, h5⟩ | ⟨h3, _⟩
  · rw [hR] at h3
    cases h3
    obtain ⟨oa, oc, rfl⟩ := owns_slice h5
    exact ⟨oa, oc, h4, h5⟩
  · rw [hR] at h3; cases h3
theorem out_is {w V : World} {p p2 b1 hb : Nat} {F : Nat → Prop} {A : Ar} {half space tp : Int} {obs : List Ob} {vw vh : Value} {ws : List Int} {qs : List MsE} {W : World} (h : Bk w V p p2 b1 hb F A half space tp vw vh ws qs W) (ho : A.objs 3 half space tp = some obs) {x : Int} (hx : fitW x) {m : List PCe} (hl : outL (space * half) obs [x] m) (hg : goodMs m = true) :
    Calls Tryz.prog 14 #[.pointer (some ⟨p, 0, none⟩), .agg #[.int .i64 3, .int .i64 half, .int .i64 space, .int .i64 tp], .int .u64 x] W fun e w' => Below W.heap.size W w' ∧ ∃ oa oc, e = .returned (.tuple #[.slice oa m.length oc, .bool true]) ∧ rdAt (fun _ => False) w' (.slice oa m.length oc) m.length (ceL m) :=
  (out_any h.wd.held 3 half space tp x hx).mono fun e w' hT => by
    obtain ⟨h1, oa, oc, h2, h3⟩ := out_yes (m := m) (by rw [ho]; exact (outP_iff _ _ _).2 ⟨hl, (goodMs_iff.1 hg).1⟩) hT
    exact ⟨h1, oa, oc, h2, rdAt.of_owns h3 (fun _ _ t => t)⟩
set_option maxHeartbeats 64000000 in
theorem walk (sa : Option Addr) (sc : Nat) (xs : List Int) (z0 z1 z2 z3 : Int) (la : Option Addr) (lc : Nat) (l : List MsE) (w : World) (hr : readsAt w (.slice sa xs.length sc) xs.length (wordsL xs)) (hx : ∀ z ∈ xs, (Lit.int .u64 z).wf = true) (hm : xs.length ≤ maxLen)
    (hcl : l.length ≤ lc) (hrl : rdAt (fun _ => False) w (.slice la l.length lc) l.length (msL l)) (hll : l.length ≤ reachBytes) (hml : ∀ x ∈ l, msOk (fun _ => False) w x) (T : OpTab w) :
    Calls Tryz.prog 3 #[.agg #[.slice sa xs.length sc, .int .i64 z0, .int .i64 z1, .int .i64 z2, .int .i64 z3], .slice la l.length lc] w fun e w' => e = .returned (.bool true) ∧ Below w.heap.size w w' := by
  have HL := Lib.hid (hrl.off (T := fun k => w.heap.size ≤ k) (fun k hk ht => by omega))
  have HM := Lib.hid (fun x (hx : x ∈ l) => show rdAt (fun k => w.heap.size ≤ k) w (msV x) x.2.2.length (ceL x.2.2) from (hml x hx).rd.off (fun k hk ht => by omega))
  have HC := Lib.hid (fun x (hx : x ∈ l) => (hml x hx).cap)
  have HT := Lib.hid T
  have HR := Lib.hid hr
  have HX := Lib.hid (fun z (hz : z ∈ xs) => wf_fitW (hx z hz))
  clear hrl hml hr hx hm hll hcl T
  obtain ⟨W0, hW0⟩ : ∃ W0, w.alloc (.cells #[.slice sa xs.length sc, .int .i64 z0, .int .i64 z1, .int .i64 z2, .int .i64 z3] 26) = W0 := ⟨_, rfl⟩
  have r0 : rowAt W0 w.heap.size 26 [.slice sa xs.length sc, .int .i64 z0, .int .i64 z1, .int .i64 z2, .int .i64 z3] := by rw [← hW0]; exact rowAt.made _ _ _
  have R0 := Lib.hid r0
  have B0 := Lib.hid (show Below w.heap.size w W0 by rw [← hW0]; exact bl_alloc (Below.refl _ _) _)
  obtain ⟨d0, d1, d2, d3, d4⟩ := cells5 r0
  clear r0
  obtain ⟨bL, hbL⟩ : ∃ b, decide (400 < xs.length) = b := ⟨_, rfl⟩
  have HBL := Lib.hid hbL
  clear hbL
  go_enter Tryz.func3, Tryz.ntmps3
  go_wp2_with fail
  clear hW0
  refine (large_to _ _ _ _ _ _ _ _ HBL.out).mono ?_
  rintro e w1 ⟨rfl, hb⟩
  have R1 := Lib.hid (R0.out.below hb R0.out.lt)
  have B1 := Lib.hid (bl_call B0.out hb)
  clear hb d0 d1 d2 d3 d4
  cases bL
  rotate_left
  · skip
    go_wp2_with fail
    refine (dwakes_any _ (HT.out.below B1.out)).mono ?_
    rintro e wz ⟨rfl, hb⟩
    have BZ := Lib.hid (bl_call B1.out hb)
    clear hb
    go_wp2_with fail
    go_ret
    exact ⟨rfl, BZ.out⟩
  · have hl4 : xs.length ≤ 400 := by have := of_decide_eq_false HBL.out; omega
    by_cases h8 : 8 < l.length
    · have d8 : (8 : Int) < (l.length : Int) := by omega
      clear h8
      go_wp2_with fail
      refine (dwakes_any _ (HT.out.below B1.out)).mono ?_
      rintro e wz ⟨rfl, hb⟩
      have BZ := Lib.hid (bl_call B1.out hb)
      clear hb
      go_wp2_with fail
      go_ret
      exact ⟨rfl, BZ.out⟩
    · have d8 : ¬ (8 : Int) < (l.length : Int) := by omega
      obtain ⟨d0, d1, d2, d3, d4⟩ := cells5 R1.out
      have HR1 := Lib.hid (HR.out.below (nil_or xs) B1.out)
      go_wp2_with fail
      refine (lay_any _ _ xs HR1.out HX.out (by omega)).mono ?_
      rintro e w2 ⟨p, p2, F, G, rfl, h1, h2, h3, h4, h5, h6⟩
      clear h2 h3 h5
      have R2 := Lib.hid (R1.out.below h6 R1.out.lt)
      have H1 := Lib.hid h1
      have HNF := Lib.hid (show ¬ F w.heap.size from fun hf => by have := h4 _ hf; have := R1.out.lt; omega)
      have H4 := Lib.hid (fun k (hk : F k) => show w.heap.size ≤ k by have := h4 k hk; have := B1.out.size; omega)
      have H6 := Lib.hid (bl_call B1.out h6)
      clear h1 h4 h6 d0 d1 d2 d3 d4
      obtain ⟨b1, hb1⟩ : ∃ b1, w2.heap.size = b1 := ⟨_, rfl⟩
      obtain ⟨W3, hW3⟩ : ∃ W3, w2.alloc (.cells #[.pointer (some ⟨p, 0, none⟩), .pointer (some ⟨p2, 0, none⟩)] 33) = W3 := ⟨_, rfl⟩
      have K3 : Hid (Wd w p p2 b1 F (Ar.laid xs) W3) := by
        have hb : Below w2.heap.size w2 W3 := by rw [← hW3]; exact bl_alloc (Below.refl _ _) _
        exact ⟨H1.out.below hb, by rw [← hW3, ← hb1]; exact rowAt.made _ _ _, fun hf => by have := H1.out.lt _ hf; omega, by have := H6.out.size; omega, H4.out, bl_call H6.out hb⟩
      have R3 := Lib.hid (show rowAt W3 w.heap.size 26 [.slice sa xs.length sc, .int .i64 z0, .int .i64 z1, .int .i64 z2, .int .i64 z3] by rw [← hW3]; exact R2.out.alloc _)
      have FB1 := Lib.hid (fun k (hk : F k) => show k < b1 by have := H1.out.lt _ hk; omega)
      obtain ⟨hb, hhb⟩ : ∃ hb, W3.heap.size = hb := ⟨_, rfl⟩
      have lb1 : b1 < hb := by have := K3.out.two.lt; omega
      have lw1 : w.heap.size < hb := by have := R3.out.lt; omega
      obtain ⟨W4, hW4⟩ : ∃ W4, W3.alloc (.cells #[.int .i64 z0, .int .i64 z1, .int .i64 z2, .int .i64 z3] 24) = W4 := ⟨_, rfl⟩
      have Z4 := Lib.hid (show rowAt W4 hb 24 [.int .i64 z0, .int .i64 z1, .int .i64 z2, .int .i64 z3] by rw [← hW4, ← hhb]; exact rowAt.made _ _ _)
      have K4 := Lib.hid (show Wd w p p2 b1 F (Ar.laid xs) W4 by rw [← hW4]; exact K3.out.on (bl_alloc (Below.refl _ _) _))
      have R4 := Lib.hid (show rowAt W4 w.heap.size 26 [.slice sa xs.length sc, .int .i64 z0, .int .i64 z1, .int .i64 z2, .int .i64 z3] by rw [← hW4]; exact R3.out.alloc _)
      obtain ⟨W5, hW5⟩ : ∃ W5, W4.setCell ⟨hb, 0, none⟩ (.int .i64 3) = W5 := ⟨_, rfl⟩
      have hu5 : Upon (fun k => k = hb) W4 W5 := by rw [← hW5]; exact Upon.setCell _ _ rfl
      have FHB := Lib.hid (show ¬ F hb from fun hf => by have := FB1.out _ hf; omega)
      have Z5 := Lib.hid (show rowAt W5 hb 24 [.int .i64 3, .int .i64 z1, .int .i64 z2, .int .i64 z3] by rw [← hW5]; exact Z4.out.set 0 _)
      have K5 : Hid (Wd w p p2 b1 F (Ar.laid xs) W5) :=
        ⟨K4.out.held.upon hu5 (fun k hk e => FHB.out (e ▸ hk)), K4.out.two.upon hu5 (by omega), K4.out.nb, K4.out.lo, K4.out.fl, K4.out.below.trans (hu5.belowB K4.out.below.size (fun k e => by omega))⟩
      have R5 := Lib.hid (R4.out.upon hu5 (by omega))
      clear hu5
      obtain ⟨d0, d1, d2, d3, d4⟩ := cells5 R3.out
      have e0 : W4.cell? ⟨hb, 0, none⟩ = some (.int .i64 z0) := (Z4.out.cell 0).trans rfl
      have e1 := Z4.out.free 0
      have e2 := Z4.out.lt
      obtain ⟨y0, y1, y2, y3⟩ := cells4 Z5.out
      have y4 : W5.cell? ⟨b1, 0, none⟩ = some (.pointer (some ⟨p, 0, none⟩)) := (K5.out.two.cell 0).trans rfl
      obtain ⟨A0, hA0⟩ : ∃ A0, Ar.laid xs = A0 := ⟨_, rfl⟩
      rw [hA0] at K3 K4 K5
      go_wp2_with fail
      clear hW3 hW4 hW5 hA0 d0 d1 d2 d3 d4 e0 e1 e2 y0 y1 y2 y3 y4 hhb
      cases ho : A0.objs 3 z1 z2 z3 with
      | none =>
        refine (good_is K5.out.held 3 z1 z2 z3 (b := false) (by rw [ho]; rfl)).mono ?_
        rintro e w6 ⟨rfl, hb6⟩
        have B6 := Lib.hid (bl_call K5.out.below hb6)
        clear hb6 ho
        go_wp2_with fail
        refine (dwakes_any _ (HT.out.below B6.out)).mono ?_
        rintro e wz ⟨rfl, hb⟩
        have BZ := Lib.hid (bl_call B6.out hb)
        clear hb
        go_wp2_with fail
        go_ret
        exact ⟨rfl, BZ.out⟩
      | some obs =>
        have NM := Lib.hid (objs_nums K5.out.held.ok ho)
        have LN := Lib.hid (objs_len K5.out.held.ok ho)
        have TH := Lib.hid (objs_there K5.out.held.ok ho)
        have O0 := Lib.hid ho
        refine (good_is K5.out.held 3 z1 z2 z3 (b := true) (by rw [ho]; rfl)).mono ?_
        rintro e w6 ⟨rfl, hb6⟩
        have K6 := Lib.hid (K5.out.on hb6)
        have Z6 := Lib.hid (Z5.out.below hb6 Z5.out.lt)
        have R6 := Lib.hid (R5.out.below hb6 R5.out.lt)
        clear hb6 ho
        have y4 : w6.cell? ⟨b1, 0, none⟩ = some (.pointer (some ⟨p, 0, none⟩)) := (K6.out.two.cell 0).trans rfl
        go_wp2_with fail
        clear y4
        refine (words_h K6.out.held 3).mono ?_
        rintro e V ⟨bv, rfl, hbo, hb7⟩
        obtain ⟨ba, bc, rfl⟩ := owns_slice hbo
        have K7 := Lib.hid (K6.out.on hb7)
        have Z7 := Lib.hid (Z6.out.below hb7 Z6.out.lt)
        have R7 := Lib.hid (R6.out.below hb7 R6.out.lt)
        have FV := Lib.hid (fun k (hk : F k) => show k < w6.heap.size from K6.out.held.lt _ hk)
        have D7 := Lib.hid (show rdAt (fun k => F k ∨ k = hb) V (.slice ba (A0.region 3).length bc) (A0.region 3).length (wordsL (A0.region 3)) from rdAt.of_owns hbo (fun g hg hk => by
          have h1 := (hbo.lt g hg).1
          rcases hk with hk | hk
          · have := FV.out _ hk; omega
          · have := Z6.out.lt; omega))
        have BC7 := Lib.hid (show (A0.region 3).length ≤ bc from by
          rcases owns_parts hbo with ⟨e, e2, _⟩ | ⟨g, cap, rest, e, _, _, _, _, h3, _⟩
          · omega
          · cases e; exact h3)
        have FV7 := Lib.hid (fun k (hk : F k) => show k < V.heap.size from K7.out.held.lt _ hk)
        have BK0 : Hid (Bk w V p p2 b1 hb F A0 z1 z2 z3 (.slice none 0 0) (.slice none 0 0) [] [] V) :=
          ⟨K7.out, Upon.refl _ _, Z7.out, FHB.out, by omega, by omega, Z7.out.lt, K7.out.two.lt, FV7.out, World.ownsRow_nil _ _ _ 1, World.ownsRow_nil _ _ _ 1⟩
        clear hbo hb7
        have hth : A0.there 3 = true := TH.out
        obtain ⟨n0, hn0⟩ : ∃ n0, (A0.region 3).length = n0 := ⟨_, rfl⟩
        have N0 := Lib.hid hn0
        rw [hn0] at D7 LN BC7 ⊢
        clear hn0
        go_wp2_with fail
        go_loopw [11, 12, 13] (fun vw vh vi wr => ∃ (i : Nat) (A : Ar) (tp : Int) (ws : List Int) (qs : List MsE) (wa : Option Addr) (cw : Nat) (ha : Option Addr) (ch : Nat) (X : List Ob), vi = .int .i64 i ∧ vw = .slice wa ws.length cw ∧ vh = .slice ha qs.length ch ∧ i ≤ l.length ∧ Hid (Bk w V p p2 b1 hb F A z1 z2 tp (.slice wa ws.length cw) (.slice ha qs.length ch) ws qs wr) ∧ Hid (A.objs 3 z1 z2 tp = some (obs ++ X)) ∧ Hid (BkQ (z2 * z1) (obs ++ X) ws qs) ∧ Hid (ws.length ≤ i ∧ ∀ q ∈ qs, q ∈ l)) (fun _ _ vi _ => l.length - (intOf vi).toNat)
        case atStart => exact ⟨0, A0, z3, [], [], none, 0, none, 0, [], rfl, rfl, rfl, Nat.zero_le _, BK0, Lib.hid (by rw [List.append_nil]; exact O0.out), Lib.hid (BkQ.nil _ _), Lib.hid ⟨Nat.le_refl _, fun q h => by cases h⟩⟩
        case round =>
          obtain ⟨i, A, tp, ws, qs, wa, cw, ha, ch, X, rfl, rfl, rfl, hi, HK, HO, HQ, HI⟩ := hrel
          by_cases hil : i < l.length
          · skip
            obtain ⟨⟨xa, xc, m⟩, hxi⟩ : ∃ x, l[i]? = some x := ⟨_, List.getElem?_eq_getElem hil⟩
            have HXI := Lib.hid hxi
            have HME := Lib.hid (List.mem_of_getElem? hxi)
            have HMM := Lib.hid (show rdAt (fun k => w.heap.size ≤ k) w (.slice xa m.length xc) m.length (ceL m) from HM.out _ HME.out)
            have HCC := Lib.hid (show m.length ≤ xc from HC.out _ HME.out)
            obtain ⟨lb, lo, hla⟩ := rd_addr HL.out (by omega)
            subst hla
            clear hxi
            obtain ⟨c0, c1, c2, c3, c4, c5⟩ := HK.out.cells HL.out HXI.out
            go_wp2_with fail
            clear c0 c1 c2 c3 c4 c5
            refine (largeMsg_any (HMM.out.below HK.out.wd.below)).mono ?_
            rintro e w8 ⟨bx, rfl, hb8⟩
            have K8 := Lib.hid (HK.out.on hb8)
            clear hb8
            cases bx
            rotate_left
            · skip
              go_wp2_with fail
              refine (dwakes_any _ (HT.out.below K8.out.wd.below)).mono ?_
              rintro e wz ⟨rfl, hb⟩
              have BZ := Lib.hid (bl_call K8.out.wd.below hb)
              clear hb
              go_wp2_with fail
              refine bodyPost_ret (v := .bool true) (by simp [results, Tryz.results3, go_sem]) rfl ⟨rfl, BZ.out⟩
            · obtain ⟨c0, c1, c2, c3, c4, c5⟩ := K8.out.cells HL.out HXI.out
              go_upto_region 18 with fail
              go_cut [14, 15, 16] (fun v14 v15 v16 wx => CutBk w V p p2 b1 hb F A z1 z2 tp (obs ++ X) m (.slice wa ws.length cw) (.slice ha qs.length ch) ws qs v14 v15 v16 wx)
              case first =>
                have IN := Lib.hid (fun (W' : World) (k : Bk w V p p2 b1 hb F A z1 z2 tp (.slice wa ws.length cw) (.slice ha qs.length ch) ws qs W') => in_both k HO.out HMM.out HCC.out)
                have nb1 : b1 ≠ w8.heap.size := by have := K8.out.wd.two.lt; omega
                have nb2 : hb ≠ w8.heap.size := by have := K8.out.hp.lt; omega
                have nb3 : lb ≠ w8.heap.size := by have := World.block_lt_of_cell? w8 _ c5; simp at this; omega
                go_wp2_with fail
                go_region_held3 (fun w' => w'.cell? ⟨b1, 0, none⟩ = some (.pointer (some ⟨p, 0, none⟩)) ∧ w'.cell? ⟨hb, 0, none⟩ = some (.int .i64 3) ∧ w'.cell? ⟨hb, 1, none⟩ = some (.int .i64 z1) ∧ w'.cell? ⟨hb, 2, none⟩ = some (.int .i64 z2) ∧ w'.cell? ⟨hb, 3, none⟩ = some (.int .i64 tp) ∧ w'.cell? ⟨lb, lo + i, none⟩ = some (.slice xa m.length xc))
                  (first | with_reducible exact K8.out.cells HL.out HXI.out | with_reducible exact K8.out.drew.cells HL.out HXI.out | with_reducible exact (K8.out.al _).cells HL.out HXI.out | with_reducible exact (K8.out.al _).drew.cells HL.out HXI.out | with_reducible exact K9.out.cells HL.out HXI.out | with_reducible exact (K9.out.al _).cells HL.out HXI.out | (refine ⟨?_, ?_, ?_, ?_, ?_, ?_⟩ <;> simp [go_sem, y0, y1, y2, y3, y4, y5, nb1, nb2, nb3, nc1, nc2, nc3]; done))
                  (first
                  | (go_at_call 10
                     with_reducible refine (IN.out w8.drew K8.out.drew).mono ?_
                     rintro e w9 ⟨A9, g0, g1, g2, g3, w0, xb, rfl, hk9, hs9, hi9⟩
                     have K9 := Lib.hid hk9
                     have I9 := Lib.hid hi9
                     obtain ⟨y0, y1, y2, y3, y4, y5⟩ := K9.out.cells HL.out HXI.out
                     have nc1 : b1 ≠ w9.heap.size := by have := K9.out.wd.two.lt; omega
                     have nc2 : hb ≠ w9.heap.size := by have := K9.out.hp.lt; omega
                     have nc3 : lb ≠ w9.heap.size := by have := World.block_lt_of_cell? w9 _ y5; simp at this; omega
                     clear hk9 hs9 hi9)
                  | (go_at_call 10
                     with_reducible refine (IN.out (w8.alloc (.cells #[.int .i64 0, .int .i64 0, .int .i64 0, .int .i64 0] 24)).drew (K8.out.al _).drew).mono ?_
                     rintro e w9 ⟨A9, g0, g1, g2, g3, w0, xb, rfl, hk9, hs9, hi9⟩
                     have K9 := Lib.hid hk9
                     have I9 := Lib.hid hi9
                     have RZ := Lib.hid ((rowAt.made w8 24 [.int .i64 0, .int .i64 0, .int .i64 0, .int .i64 0]).drew.upon hs9.upon (fun hf => by have := K8.out.wd.held.lt _ hf; omega))
                     obtain ⟨y0, y1, y2, y3, y4, y5⟩ := K9.out.cells HL.out HXI.out
                     obtain ⟨x0, x1, x2, x3⟩ := cells4 RZ.out
                     have f0 := RZ.out.free 0
                     have f1 := RZ.out.free 1
                     have f2 := RZ.out.free 2
                     have f3 := RZ.out.free 3
                     have l9 := RZ.out.lt
                     have nc1 : b1 ≠ w9.heap.size := by have := K9.out.wd.two.lt; omega
                     have nc2 : hb ≠ w9.heap.size := by have := K9.out.hp.lt; omega
                     have nc3 : lb ≠ w9.heap.size := by have := World.block_lt_of_cell? w9 _ y5; simp at this; omega
                     clear hk9 hs9 hi9))
                all_goals
                  go_wp2_with fail
                  go_meet
                  first
                    | exact cutBk_last K9.out I9.out
                    | exact cutBk_set K9.out K8.out (Nat.le_refl _) RZ.out I9.out
              case rest =>
                obtain ⟨gb, A9, g0, g1, g2, g3, w0, xb, rfl, rfl, rfl, hk9, hg9, hgF, hgh, hI⟩ := hcut
                rename_i w9
                have K9 := Lib.hid hk9
                have G9 := Lib.hid hg9
                have NG := Lib.hid hgh
                clear hk9 hg9 hgF hgh c0 c1 c2 c3 c4 c5
                obtain ⟨q, hq⟩ : ∃ q, wordsM m = q := ⟨_, rfl⟩
                have Q := Lib.hid hq
                unfold InR at hI
                rw [hq] at hI
                clear hq
                have NM9 := Lib.hid (show 0 ≤ tp ∧ tp ≤ z1 from by have := objs_nums HK.out.wd.held.ok HO.out; omega)
                have hn1 := NM.out
                have hn2 := NM9.out
                rcases hI with ⟨rfl, hgd, hw, rfl, rfl, rfl, htp, X', ho', hl', hf', hcr⟩ | ⟨rfl, hgd, rfl⟩
                · obtain ⟨t9, ht9⟩ : ∃ t9 : Int, t9 = g3 := ⟨_, rfl⟩
                  have G := Lib.hid hgd
                  have O9 := Lib.hid ho'
                  have L9 := Lib.hid hl'
                  have F9 := Lib.hid hf'
                  have C9 := Lib.hid hcr
                  have TP := Lib.hid htp
                  clear ht9 t9 hgd ho' hl' hf' hcr
                  have GD := Lib.hid (fun (W' : World) (k : Bk w V p p2 b1 hb F A9 z1 z2 tp (.slice wa ws.length cw) (.slice ha qs.length ch) ws qs W') => show Calls Tryz.prog 11 #[.slice xa m.length xc] W' _ from rgood_is G.out (HMM.out.below k.wd.below))
                  have WD := Lib.hid (fun (W' : World) (k : Bk w V p p2 b1 hb F A9 z1 z2 tp (.slice wa ws.length cw) (.slice ha qs.length ch) ws qs W') => show Calls Tryz.prog 12 #[.slice xa m.length xc] W' _ from rwords_is Q.out G.out (HMM.out.below k.wd.below))
                  have DW := Lib.hid (fun (W' : World) (k : Bk w V p p2 b1 hb F A9 z1 z2 tp (.slice wa ws.length cw) (.slice ha qs.length ch) ws qs W') => show Calls Tryz.prog 13 #[.slice xa m.length xc] W' _ from dwords_is (msg_is G.out Q.out) (HMM.out.below k.wd.below))
                  have OG := Lib.hid (fun (W' : World) (k : Bk w V p p2 b1 hb F A9 z1 z2 tp (.slice wa ws.length cw) (.slice ha qs.length ch) ws qs W') => show Calls Tryz.prog 7 #[.pointer (some ⟨p, 0, none⟩), .agg #[.int .i64 3, .int .i64 z1, .int .i64 z2, .int .i64 g3]] W' _ from good_is k.wd.held 3 z1 z2 g3 (b := true) (by rw [O9.out]; rfl))
                  have hz1 : IntKind.i64.wrap (z1 - tp) = z1 - tp := by rw [IntKind.wrap_i64]; omega
                  have hz2 : IntKind.i64.wrap (tp + (q : Int)) = g3 := by rw [IntKind.wrap_i64]; omega
                  have hz3 : decide ((q : Int) ≤ z1 - tp) = true := decide_eq_true hw
                  have hz6 : IntKind.i64.wrap g3 = g3 := by rw [IntKind.wrap_i64]; omega
                  have hz4 : (g3 != g3) = false := by simp
                  have hz5 : (g3 != IntKind.i64.wrap (tp + (q : Int))) = false := by rw [hz2]; simp
                  go_wp2_with fail
                  refine wp_region_held_drew (S := fun w' => w'.cell? ⟨b1, 0, none⟩ = some (.pointer (some ⟨p, 0, none⟩)) ∧ w'.cell? ⟨hb, 0, none⟩ = some (.int .i64 3) ∧ w'.cell? ⟨hb, 1, none⟩ = some (.int .i64 z1) ∧ w'.cell? ⟨hb, 2, none⟩ = some (.int .i64 z2) ∧ w'.cell? ⟨hb, 3, none⟩ = some (.int .i64 tp) ∧ w'.cell? ⟨lb, lo + i, none⟩ = some (.slice xa m.length xc)) (by kernel_rfl) (K9.out.cells HL.out HXI.out) (fun hH0 => ?_)
                  refine wpAnyH_take (i := 0) (oi := _) (v := ?_) (by simp only [List.getElem?_toArray, List.getElem?_cons_succ, List.getElem?_cons_zero]; rfl) (by kernel_rfl) (by kernel_rfl) (by kernel_rfl) (by exact fun _ _ _ h => h) (Or.inl ⟨by rfl, ?_⟩) (by assumption) ?_
                  rotate_left
                  · (intro w hSw; (try dsimp only at hSw); go_simp; try with_reducible rfl)
                  try simp only [Act.put, List.setIfInBounds_toArray, List.set_cons_zero, List.set_cons_succ]
                  refine wpAnyH_take (i := 1) (oi := _) (v := ?_) (by simp only [List.getElem?_toArray, List.getElem?_cons_succ, List.getElem?_cons_zero]; rfl) (by kernel_rfl) (by kernel_rfl) (by kernel_rfl) (by exact fun _ _ _ h => h) (Or.inl ⟨by rfl, ?_⟩) (by assumption) ?_
                  rotate_left
                  · (intro w hSw; (try dsimp only at hSw); go_simp; try with_reducible rfl)
                  try simp only [Act.put, List.setIfInBounds_toArray, List.set_cons_zero, List.set_cons_succ]
                  refine wpAnyH_take (i := 2) (oi := _) (v := ?_) (by simp only [List.getElem?_toArray, List.getElem?_cons_succ, List.getElem?_cons_zero]; rfl) (by kernel_rfl) (by kernel_rfl) (by kernel_rfl) (by exact fun _ _ _ h => h) (Or.inl ⟨by rfl, ?_⟩) (by assumption) ?_
                  rotate_left
                  · (intro w hSw; (try dsimp only at hSw); go_simp; try with_reducible rfl)
                  try simp only [Act.put, List.setIfInBounds_toArray, List.set_cons_zero, List.set_cons_succ]
                  refine wpAnyH_take (i := 3) (oi := _) (v := ?_) (by simp only [List.getElem?_toArray, List.getElem?_cons_succ, List.getElem?_cons_zero]; rfl) (by kernel_rfl) (by kernel_rfl) (by kernel_rfl) (by exact fun _ _ _ h => h) (Or.inl ⟨by rfl, ?_⟩) (by assumption) ?_
                  rotate_left
                  · (intro w hSw; (try dsimp only at hSw); go_simp; try with_reducible rfl)
                  try simp only [Act.put, List.setIfInBounds_toArray, List.set_cons_zero, List.set_cons_succ]
                  refine wpAnyH_take (i := 4) (oi := _) (v := ?_) (by simp only [List.getElem?_toArray, List.getElem?_cons_succ, List.getElem?_cons_zero]; rfl) (by kernel_rfl) (by kernel_rfl) (by kernel_rfl) (by exact fun _ _ _ h => h) (Or.inl ⟨by rfl, ?_⟩) (by assumption) ?_
                  rotate_left
                  · (intro w hSw; (try dsimp only at hSw); go_simp; try with_reducible rfl)
                  try simp only [Act.put, List.setIfInBounds_toArray, List.set_cons_zero, List.set_cons_succ]
                  refine wpAnyH_ready (rs := [5]) (by kernel_rfl) (by simp) ?_
                  refine AllReadyH.cons rfl (fun K hK => ?_) AllReadyH.nil
                  go_simp
                  refine (GD.out _ K9.out.drew).mono ?_
                  rintro e w10 ⟨rfl, hb10⟩
                  have K10 := Lib.hid (K9.out.drew.on hb10)
                  have G10 := Lib.hid (G9.out.drew.below hb10 G9.out.lt)
                  clear hb10
                  go_wp2_with fail
                  refine hK.out _ _ (K10.out.cells HL.out HXI.out) (fun hH1 => ?_)
                  clear hK K hH0
                  try simp only [Act.put, List.setIfInBounds_toArray, List.set_cons_zero, List.set_cons_succ]
                  refine wpAnyH_take (i := 6) (oi := _) (v := ?_) (by simp only [List.getElem?_toArray, List.getElem?_cons_succ, List.getElem?_cons_zero]; rfl) (by kernel_rfl) (by kernel_rfl) (by kernel_rfl) (by exact fun _ _ _ h => h) (Or.inl ⟨by rfl, ?_⟩) (by assumption) ?_
                  rotate_left
                  · (intro w hSw; (try dsimp only at hSw); go_simp; try with_reducible rfl)
                  try simp only [Act.put, List.setIfInBounds_toArray, List.set_cons_zero, List.set_cons_succ]
                  refine wpAnyH_take (i := 7) (oi := _) (v := ?_) (by simp only [List.getElem?_toArray, List.getElem?_cons_succ, List.getElem?_cons_zero]; rfl) (by kernel_rfl) (by kernel_rfl) (by kernel_rfl) (by exact fun _ _ _ h => h) (Or.inl ⟨by rfl, ?_⟩) (by assumption) ?_
                  rotate_left
                  · (intro w hSw; (try dsimp only at hSw); go_simp; try with_reducible rfl)
                  try simp only [Act.put, List.setIfInBounds_toArray, List.set_cons_zero, List.set_cons_succ]
                  refine wpAnyH_take (i := 8) (oi := _) (v := ?_) (by simp only [List.getElem?_toArray, List.getElem?_cons_succ, List.getElem?_cons_zero]; rfl) (by kernel_rfl) (by kernel_rfl) (by kernel_rfl) (by exact fun _ _ _ h => h) (Or.inl ⟨by rfl, ?_⟩) (by assumption) ?_
                  rotate_left
                  · (intro w hSw; (try dsimp only at hSw); go_simp; try with_reducible rfl)
                  try simp only [Act.put, List.setIfInBounds_toArray, List.set_cons_zero, List.set_cons_succ]
                  refine wpAnyH_take (i := 9) (oi := _) (v := ?_) (by simp only [List.getElem?_toArray, List.getElem?_cons_succ, List.getElem?_cons_zero]; rfl) (by kernel_rfl) (by kernel_rfl) (by kernel_rfl) (by exact fun _ _ _ h => h) (Or.inl ⟨by rfl, ?_⟩) (by assumption) ?_
                  rotate_left
                  · (intro w hSw; (try dsimp only at hSw); go_simp; try with_reducible rfl)
                  try simp only [Act.put, List.setIfInBounds_toArray, List.set_cons_zero, List.set_cons_succ]
                  refine wpAnyH_take (i := 10) (oi := _) (v := ?_) (by simp only [List.getElem?_toArray, List.getElem?_cons_succ, List.getElem?_cons_zero]; rfl) (by kernel_rfl) (by kernel_rfl) (by kernel_rfl) (by exact fun _ _ _ h => h) (Or.inl ⟨by rfl, ?_⟩) (by assumption) ?_
                  rotate_left
                  · (intro w hSw; (try dsimp only at hSw); go_simp; try with_reducible rfl)
                  try simp only [Act.put, List.setIfInBounds_toArray, List.set_cons_zero, List.set_cons_succ]
                  refine wpAnyH_take (i := 11) (oi := _) (v := ?_) (by simp only [List.getElem?_toArray, List.getElem?_cons_succ, List.getElem?_cons_zero]; rfl) (by kernel_rfl) (by kernel_rfl) (by kernel_rfl) (by exact fun _ _ _ h => h) (Or.inl ⟨by rfl, ?_⟩) (by assumption) ?_
                  rotate_left
                  · (intro w hSw; (try dsimp only at hSw); go_simp; try with_reducible rfl)
                  try simp only [Act.put, List.setIfInBounds_toArray, List.set_cons_zero, List.set_cons_succ]
                  refine wpAnyH_take (i := 12) (oi := _) (v := ?_) (by simp only [List.getElem?_toArray, List.getElem?_cons_succ, List.getElem?_cons_zero]; rfl) (by kernel_rfl) (by kernel_rfl) (by kernel_rfl) (by exact fun _ _ _ h => h) (Or.inl ⟨by rfl, ?_⟩) (by assumption) ?_
                  rotate_left
                  · (intro w hSw; (try dsimp only at hSw); go_simp; try with_reducible rfl)
                  try simp only [Act.put, List.setIfInBounds_toArray, List.set_cons_zero, List.set_cons_succ]
                  refine wpAnyH_take (i := 13) (oi := _) (v := ?_) (by simp only [List.getElem?_toArray, List.getElem?_cons_succ, List.getElem?_cons_zero]; rfl) (by kernel_rfl) (by kernel_rfl) (by kernel_rfl) (by exact fun _ _ _ h => h) (Or.inl ⟨by rfl, ?_⟩) (by assumption) ?_
                  rotate_left
                  · (intro w hSw; (try dsimp only at hSw); go_simp; try with_reducible rfl)
                  try simp only [Act.put, List.setIfInBounds_toArray, List.set_cons_zero, List.set_cons_succ]
                  refine wpAnyH_take (i := 14) (oi := _) (v := ?_) (by simp only [List.getElem?_toArray, List.getElem?_cons_succ, List.getElem?_cons_zero]; rfl) (by kernel_rfl) (by kernel_rfl) (by kernel_rfl) (by exact fun _ _ _ h => h) (Or.inl ⟨by rfl, ?_⟩) (by assumption) ?_
                  rotate_left
                  · (intro w hSw; (try dsimp only at hSw); go_simp; try with_reducible rfl)
                  try simp only [Act.put, List.setIfInBounds_toArray, List.set_cons_zero, List.set_cons_succ]
                  refine wpAnyH_take (i := 15) (oi := _) (v := ?_) (by simp only [List.getElem?_toArray, List.getElem?_cons_succ, List.getElem?_cons_zero]; rfl) (by kernel_rfl) (by kernel_rfl) (by kernel_rfl) (by exact fun _ _ _ h => h) (Or.inl ⟨by rfl, ?_⟩) (by assumption) ?_
                  rotate_left
                  · (intro w hSw; (try dsimp only at hSw); go_simp; try with_reducible rfl)
                  try simp only [Act.put, List.setIfInBounds_toArray, List.set_cons_zero, List.set_cons_succ]
                  refine wpAnyH_ready (rs := [16]) (by kernel_rfl) (by simp) ?_
                  refine AllReadyH.cons rfl (fun K hK => ?_) AllReadyH.nil
                  go_simp
                  refine (WD.out _ K10.out).mono ?_
                  rintro e w11 ⟨rfl, hb11⟩
                  have K11 := Lib.hid (K10.out.on hb11)
                  have G11 := Lib.hid (G10.out.below hb11 G10.out.lt)
                  clear hb11
                  go_wp2_with fail
                  refine hK.out _ _ (K11.out.cells HL.out HXI.out) (fun hH2 => ?_)
                  clear hK K hH1
                  try simp only [Act.put, List.setIfInBounds_toArray, List.set_cons_zero, List.set_cons_succ]
                  refine wpAnyH_take (i := 17) (oi := _) (v := ?_) (by simp only [List.getElem?_toArray, List.getElem?_cons_succ, List.getElem?_cons_zero]; rfl) (by kernel_rfl) (by kernel_rfl) (by kernel_rfl) (by exact fun _ _ _ h => h) (Or.inl ⟨by rfl, ?_⟩) (by assumption) ?_
                  rotate_left
                  · (intro w hSw; (try dsimp only at hSw); go_simp; try with_reducible rfl)
                  try simp only [Act.put, List.setIfInBounds_toArray, List.set_cons_zero, List.set_cons_succ]
                  refine wpAnyH_take (i := 18) (oi := _) (v := ?_) (by simp only [List.getElem?_toArray, List.getElem?_cons_succ, List.getElem?_cons_zero]; rfl) (by kernel_rfl) (by kernel_rfl) (by kernel_rfl) (by exact fun _ _ _ h => h) (Or.inl ⟨by rfl, ?_⟩) (by assumption) ?_
                  rotate_left
                  · (intro w hSw; (try dsimp only at hSw); go_simp; try with_reducible rfl)
                  try simp only [Act.put, List.setIfInBounds_toArray, List.set_cons_zero, List.set_cons_succ]
                  refine wpAnyH_take (i := 19) (oi := _) (v := ?_) (by simp only [List.getElem?_toArray, List.getElem?_cons_succ, List.getElem?_cons_zero]; rfl) (by kernel_rfl) (by kernel_rfl) (by kernel_rfl) (by exact fun _ _ _ h => h) (Or.inl ⟨by rfl, ?_⟩) (by assumption) ?_
                  rotate_left
                  · (intro w hSw; (try dsimp only at hSw); go_simp; try with_reducible rfl)
                  try simp only [Act.put, List.setIfInBounds_toArray, List.set_cons_zero, List.set_cons_succ]
                  refine wpAnyH_done (by kernel_rfl) ?_ _
                  go_wp2_with fail
                  refine wp_region_held_drew (S := fun w' => w'.cell? ⟨b1, 0, none⟩ = some (.pointer (some ⟨p, 0, none⟩)) ∧ w'.cell? ⟨hb, 3, none⟩ = some (.int .i64 tp) ∧ w'.cell? ⟨lb, lo + i, none⟩ = some (.slice xa m.length xc) ∧ w'.cell? ⟨gb, 0, none⟩ = some (.int .i64 3) ∧ w'.cell? ⟨gb, 1, none⟩ = some (.int .i64 z1) ∧ w'.cell? ⟨gb, 2, none⟩ = some (.int .i64 z2) ∧ w'.cell? ⟨gb, 3, none⟩ = some (.int .i64 g3)) (by kernel_rfl) (K11.out.cellsG HL.out HXI.out G11.out) (fun hH0 => ?_)
                  refine wpAnyH_take (i := 0) (oi := _) (v := ?_) (by simp only [List.getElem?_toArray, List.getElem?_cons_succ, List.getElem?_cons_zero]; rfl) (by kernel_rfl) (by kernel_rfl) (by kernel_rfl) (by exact fun _ _ _ h => h) (Or.inl ⟨by rfl, ?_⟩) (by assumption) ?_
                  rotate_left
                  · (intro w hSw; (try dsimp only at hSw); go_simp; try with_reducible rfl)
                  try simp only [Act.put, List.setIfInBounds_toArray, List.set_cons_zero, List.set_cons_succ]
                  refine wpAnyH_take (i := 1) (oi := _) (v := ?_) (by simp only [List.getElem?_toArray, List.getElem?_cons_succ, List.getElem?_cons_zero]; rfl) (by kernel_rfl) (by kernel_rfl) (by kernel_rfl) (by exact fun _ _ _ h => h) (Or.inl ⟨by rfl, ?_⟩) (by assumption) ?_
                  rotate_left
                  · (intro w hSw; (try dsimp only at hSw); go_simp; try with_reducible rfl)
                  try simp only [Act.put, List.setIfInBounds_toArray, List.set_cons_zero, List.set_cons_succ]
                  refine wpAnyH_take (i := 2) (oi := _) (v := ?_) (by simp only [List.getElem?_toArray, List.getElem?_cons_succ, List.getElem?_cons_zero]; rfl) (by kernel_rfl) (by kernel_rfl) (by kernel_rfl) (by exact fun _ _ _ h => h) (Or.inl ⟨by rfl, ?_⟩) (by assumption) ?_
                  rotate_left
                  · (intro w hSw; (try dsimp only at hSw); go_simp; try with_reducible rfl)
                  try simp only [Act.put, List.setIfInBounds_toArray, List.set_cons_zero, List.set_cons_succ]
                  refine wpAnyH_take (i := 3) (oi := _) (v := ?_) (by simp only [List.getElem?_toArray, List.getElem?_cons_succ, List.getElem?_cons_zero]; rfl) (by kernel_rfl) (by kernel_rfl) (by kernel_rfl) (by exact fun _ _ _ h => h) (Or.inl ⟨by rfl, ?_⟩) (by assumption) ?_
                  rotate_left
                  · (intro w hSw; (try dsimp only at hSw); go_simp; try with_reducible rfl)
                  try simp only [Act.put, List.setIfInBounds_toArray, List.set_cons_zero, List.set_cons_succ]
                  refine wpAnyH_take (i := 4) (oi := _) (v := ?_) (by simp only [List.getElem?_toArray, List.getElem?_cons_succ, List.getElem?_cons_zero]; rfl) (by kernel_rfl) (by kernel_rfl) (by kernel_rfl) (by exact fun _ _ _ h => h) (Or.inl ⟨by rfl, ?_⟩) (by assumption) ?_
                  rotate_left
                  · (intro w hSw; (try dsimp only at hSw); go_simp; try with_reducible rfl)
                  try simp only [Act.put, List.setIfInBounds_toArray, List.set_cons_zero, List.set_cons_succ]
                  refine wpAnyH_take (i := 5) (oi := _) (v := ?_) (by simp only [List.getElem?_toArray, List.getElem?_cons_succ, List.getElem?_cons_zero]; rfl) (by kernel_rfl) (by kernel_rfl) (by kernel_rfl) (by exact fun _ _ _ h => h) (Or.inl ⟨by rfl, ?_⟩) (by assumption) ?_
                  rotate_left
                  · (intro w hSw; (try dsimp only at hSw); go_simp; try with_reducible rfl)
                  try simp only [Act.put, List.setIfInBounds_toArray, List.set_cons_zero, List.set_cons_succ]
                  refine wpAnyH_take (i := 6) (oi := _) (v := ?_) (by simp only [List.getElem?_toArray, List.getElem?_cons_succ, List.getElem?_cons_zero]; rfl) (by kernel_rfl) (by kernel_rfl) (by kernel_rfl) (by exact fun _ _ _ h => h) (Or.inl ⟨by rfl, ?_⟩) (by assumption) ?_
                  rotate_left
                  · (intro w hSw; (try dsimp only at hSw); go_simp; try with_reducible rfl)
                  try simp only [Act.put, List.setIfInBounds_toArray, List.set_cons_zero, List.set_cons_succ]
                  refine wpAnyH_take (i := 7) (oi := _) (v := ?_) (by simp only [List.getElem?_toArray, List.getElem?_cons_succ, List.getElem?_cons_zero]; rfl) (by kernel_rfl) (by kernel_rfl) (by kernel_rfl) (by exact fun _ _ _ h => h) (Or.inl ⟨by rfl, ?_⟩) (by assumption) ?_
                  rotate_left
                  · (intro w hSw; (try dsimp only at hSw); go_simp; try with_reducible rfl)
                  try simp only [Act.put, List.setIfInBounds_toArray, List.set_cons_zero, List.set_cons_succ]
                  refine wpAnyH_ready (rs := [8]) (by kernel_rfl) (by simp) ?_
                  refine AllReadyH.cons rfl (fun K hK => ?_) AllReadyH.nil
                  go_simp
                  refine (DW.out _ K11.out.drew).mono ?_
                  rintro e w12 ⟨rfl, hb12⟩
                  have K12 := Lib.hid (K11.out.drew.on hb12)
                  have G12 := Lib.hid (G11.out.drew.below hb12 G11.out.lt)
                  clear hb12
                  go_wp2_with fail
                  refine hK.out _ _ (K12.out.cellsG HL.out HXI.out G12.out) (fun hH1 => ?_)
                  clear hK K hH0
                  try simp only [Act.put, List.setIfInBounds_toArray, List.set_cons_zero, List.set_cons_succ]
                  refine wpAnyH_take (i := 9) (oi := _) (v := ?_) (by simp only [List.getElem?_toArray, List.getElem?_cons_succ, List.getElem?_cons_zero]; rfl) (by kernel_rfl) (by kernel_rfl) (by kernel_rfl) (by exact fun _ _ _ h => h) (Or.inl ⟨by rfl, ?_⟩) (by assumption) ?_
                  rotate_left
                  · (intro w hSw; (try dsimp only at hSw); go_simp; try with_reducible rfl)
                  try simp only [Act.put, List.setIfInBounds_toArray, List.set_cons_zero, List.set_cons_succ]
                  refine wpAnyH_take (i := 10) (oi := _) (v := .bool false) (by simp only [List.getElem?_toArray, List.getElem?_cons_succ, List.getElem?_cons_zero]; rfl) (by kernel_rfl) (by kernel_rfl) (by kernel_rfl) (by exact fun _ _ _ h => h) (Or.inl ⟨by rfl, ?_⟩) (by assumption) ?_
                  · (intro w hSw; (try dsimp only at hSw); go_simp; (try simp [hz2, hz4, hz5, hz6]))
                  try simp only [Act.put, List.setIfInBounds_toArray, List.set_cons_zero, List.set_cons_succ]
                  refine wpAnyH_take (i := 11) (oi := _) (v := ?_) (by simp only [List.getElem?_toArray, List.getElem?_cons_succ, List.getElem?_cons_zero]; rfl) (by kernel_rfl) (by kernel_rfl) (by kernel_rfl) (by exact fun _ _ _ h => h) (Or.inl ⟨by rfl, ?_⟩) (by assumption) ?_
                  rotate_left
                  · (intro w hSw; (try dsimp only at hSw); go_simp; try with_reducible rfl)
                  try simp only [Act.put, List.setIfInBounds_toArray, List.set_cons_zero, List.set_cons_succ]
                  refine wpAnyH_take (i := 12) (oi := _) (v := ?_) (by simp only [List.getElem?_toArray, List.getElem?_cons_succ, List.getElem?_cons_zero]; rfl) (by kernel_rfl) (by kernel_rfl) (by kernel_rfl) (by exact fun _ _ _ h => h) (Or.inl ⟨by rfl, ?_⟩) (by assumption) ?_
                  rotate_left
                  · (intro w hSw; (try dsimp only at hSw); go_simp; try with_reducible rfl)
                  try simp only [Act.put, List.setIfInBounds_toArray, List.set_cons_zero, List.set_cons_succ]
                  refine wpAnyH_take (i := 13) (oi := _) (v := ?_) (by simp only [List.getElem?_toArray, List.getElem?_cons_succ, List.getElem?_cons_zero]; rfl) (by kernel_rfl) (by kernel_rfl) (by kernel_rfl) (by exact fun _ _ _ h => h) (Or.inl ⟨by rfl, ?_⟩) (by assumption) ?_
                  rotate_left
                  · (intro w hSw; (try dsimp only at hSw); go_simp; try with_reducible rfl)
                  try simp only [Act.put, List.setIfInBounds_toArray, List.set_cons_zero, List.set_cons_succ]
                  refine wpAnyH_take (i := 14) (oi := _) (v := ?_) (by simp only [List.getElem?_toArray, List.getElem?_cons_succ, List.getElem?_cons_zero]; rfl) (by kernel_rfl) (by kernel_rfl) (by kernel_rfl) (by exact fun _ _ _ h => h) (Or.inl ⟨by rfl, ?_⟩) (by assumption) ?_
                  rotate_left
                  · (intro w hSw; (try dsimp only at hSw); go_simp; try with_reducible rfl)
                  try simp only [Act.put, List.setIfInBounds_toArray, List.set_cons_zero, List.set_cons_succ]
                  refine wpAnyH_ready (rs := [15]) (by kernel_rfl) (by simp) ?_
                  refine AllReadyH.cons rfl (fun K hK => ?_) AllReadyH.nil
                  go_simp
                  refine (OG.out _ K12.out).mono ?_
                  rintro e w13 ⟨rfl, hb13⟩
                  have K13 := Lib.hid (K12.out.on hb13)
                  have G13 := Lib.hid (G12.out.below hb13 G12.out.lt)
                  clear hb13
                  go_wp2_with fail
                  refine hK.out _ _ (K13.out.cellsG HL.out HXI.out G13.out) (fun hH2 => ?_)
                  clear hK K hH1
                  try simp only [Act.put, List.setIfInBounds_toArray, List.set_cons_zero, List.set_cons_succ]
                  refine wpAnyH_take (i := 16) (oi := _) (v := ?_) (by simp only [List.getElem?_toArray, List.getElem?_cons_succ, List.getElem?_cons_zero]; rfl) (by kernel_rfl) (by kernel_rfl) (by kernel_rfl) (by exact fun _ _ _ h => h) (Or.inl ⟨by rfl, ?_⟩) (by assumption) ?_
                  rotate_left
                  · (intro w hSw; (try dsimp only at hSw); go_simp; try with_reducible rfl)
                  try simp only [Act.put, List.setIfInBounds_toArray, List.set_cons_zero, List.set_cons_succ]
                  refine wpAnyH_take (i := 17) (oi := _) (v := ?_) (by simp only [List.getElem?_toArray, List.getElem?_cons_succ, List.getElem?_cons_zero]; rfl) (by kernel_rfl) (by kernel_rfl) (by kernel_rfl) (by exact fun _ _ _ h => h) (Or.inl ⟨by rfl, ?_⟩) (by assumption) ?_
                  rotate_left
                  · (intro w hSw; (try dsimp only at hSw); go_simp; try with_reducible rfl)
                  try simp only [Act.put, List.setIfInBounds_toArray, List.set_cons_zero, List.set_cons_succ]
                  refine wpAnyH_done (by kernel_rfl) ?_ _
                  obtain ⟨c0, c1, c2, c3, c4, c5⟩ := K13.out.cells HL.out HXI.out
                  obtain ⟨x0, x1, x2, x3⟩ := cells4 G13.out
                  have f0 := K13.out.hp.free 0
                  have f1 := K13.out.hp.free 1
                  have f2 := K13.out.hp.free 2
                  have f3 := K13.out.hp.free 3
                  have lt13 := K13.out.hp.lt
                  obtain ⟨W14, hW14⟩ : ∃ W, (((w13.setCell ⟨hb, 0, none⟩ (.int .i64 3)).setCell ⟨hb, 1, none⟩ (.int .i64 z1)).setCell ⟨hb, 2, none⟩ (.int .i64 z2)).setCell ⟨hb, 3, none⟩ (.int .i64 g3) = W := ⟨_, rfl⟩
                  have K14 := Lib.hid (show Bk w V p p2 b1 hb F A9 z1 z2 g3 (.slice wa ws.length cw) (.slice ha qs.length ch) ws qs W14 by rw [← hW14]; exact K13.out.heap g3)
                  go_wp2_with fail
                  clear c0 c1 c2 c3 c4 c5 x0 x1 x2 x3 f0 f1 f2 f3 lt13 hW14 hz1 hz2 hz3
                  obtain ⟨c0, c1, c2, c3, c4, c5⟩ := K14.out.cells HL.out HXI.out
                  obtain ⟨c00, r00, hmc, hwi⟩ := C9.out
                  have BQ := Lib.hid (BkQ.snoc (HQ.out.more X') (q := (xa, xc, m)) L9.out G.out F9.out hmc hwi)
                  have MEM := Lib.hid (show ∀ y ∈ qs ++ [(xa, xc, m)], y ∈ l from fun y hy => by
                    rcases List.mem_append.1 hy with h | h
                    · exact HI.out.2 y h
                    · rw [List.mem_singleton.1 h]; exact HME.out)
                  have LW := Lib.hid (show (ws ++ [w0]).length ≤ i + 1 by have := HI.out.1; simp; omega)
                  have EA := Lib.hid (List.append_assoc obs X X')
                  clear hmc hwi
                  have T0 := TwB.start K14.out
                  have hw10 : ws.length ≤ 10 := by have := HI.out.1; omega
                  have hq10 : qs.length ≤ 10 := by have := HQ.out.1; omega
                  go_region_held3 (fun w' => w'.cell? ⟨lb, lo + i, none⟩ = some (.slice xa m.length xc))
                    (first | exact c5 | exact ((hT2).k.cells HL.out HXI.out).2.2.2.2.2 | exact (((hT2).drew).k.cells HL.out HXI.out).2.2.2.2.2 | exact (((hT2).alloc _ _).k.cells HL.out HXI.out).2.2.2.2.2 | exact ((((hT2).alloc _ _).drew).k.cells HL.out HXI.out).2.2.2.2.2 | exact ((((hT2).drew).alloc _ _).k.cells HL.out HXI.out).2.2.2.2.2 | exact (((((hT2).drew).alloc _ _).drew).k.cells HL.out HXI.out).2.2.2.2.2 | exact ((((hT2).alloc _ _).alloc _ _).k.cells HL.out HXI.out).2.2.2.2.2 | exact (((((hT2).alloc _ _).alloc _ _).drew).k.cells HL.out HXI.out).2.2.2.2.2 | exact (((((hT2).alloc _ _).drew).alloc _ _).k.cells HL.out HXI.out).2.2.2.2.2 | exact ((((((hT2).alloc _ _).drew).alloc _ _).drew).k.cells HL.out HXI.out).2.2.2.2.2 | exact ((((((hT2).drew).alloc _ _).alloc _ _).drew).k.cells HL.out HXI.out).2.2.2.2.2 | exact ((hT1).k.cells HL.out HXI.out).2.2.2.2.2 | exact (((hT1).drew).k.cells HL.out HXI.out).2.2.2.2.2 | exact (((hT1).alloc _ _).k.cells HL.out HXI.out).2.2.2.2.2 | exact ((((hT1).alloc _ _).drew).k.cells HL.out HXI.out).2.2.2.2.2 | exact ((((hT1).drew).alloc _ _).k.cells HL.out HXI.out).2.2.2.2.2 | exact (((((hT1).drew).alloc _ _).drew).k.cells HL.out HXI.out).2.2.2.2.2 | exact ((((hT1).alloc _ _).alloc _ _).k.cells HL.out HXI.out).2.2.2.2.2 | exact (((((hT1).alloc _ _).alloc _ _).drew).k.cells HL.out HXI.out).2.2.2.2.2 | exact (((((hT1).alloc _ _).drew).alloc _ _).k.cells HL.out HXI.out).2.2.2.2.2 | exact ((((((hT1).alloc _ _).drew).alloc _ _).drew).k.cells HL.out HXI.out).2.2.2.2.2 | exact ((((((hT1).drew).alloc _ _).alloc _ _).drew).k.cells HL.out HXI.out).2.2.2.2.2 | exact ((T0).k.cells HL.out HXI.out).2.2.2.2.2 | exact (((T0).drew).k.cells HL.out HXI.out).2.2.2.2.2 | exact (((T0).alloc _ _).k.cells HL.out HXI.out).2.2.2.2.2 | exact ((((T0).alloc _ _).drew).k.cells HL.out HXI.out).2.2.2.2.2 | exact ((((T0).drew).alloc _ _).k.cells HL.out HXI.out).2.2.2.2.2 | exact (((((T0).drew).alloc _ _).drew).k.cells HL.out HXI.out).2.2.2.2.2 | exact ((((T0).alloc _ _).alloc _ _).k.cells HL.out HXI.out).2.2.2.2.2 | exact (((((T0).alloc _ _).alloc _ _).drew).k.cells HL.out HXI.out).2.2.2.2.2 | exact (((((T0).alloc _ _).drew).alloc _ _).k.cells HL.out HXI.out).2.2.2.2.2 | exact ((((((T0).alloc _ _).drew).alloc _ _).drew).k.cells HL.out HXI.out).2.2.2.2.2 | exact ((((((T0).drew).alloc _ _).alloc _ _).drew).k.cells HL.out HXI.out).2.2.2.2.2)
                    (first
                      | ((refine step_aw (by rfl) (.tmp 122) (.tmp 124) (by rfl) _ _ w0 (by (first | exact hT2 | exact (hT2).drew | exact (hT2).alloc _ _ | exact ((hT2).alloc _ _).drew | exact ((hT2).drew).alloc _ _ | exact (((hT2).drew).alloc _ _).drew | exact ((hT2).alloc _ _).alloc _ _ | exact (((hT2).alloc _ _).alloc _ _).drew | exact (((hT2).alloc _ _).drew).alloc _ _ | exact ((((hT2).alloc _ _).drew).alloc _ _).drew | exact ((((hT2).drew).alloc _ _).alloc _ _).drew | exact hT1 | exact (hT1).drew | exact (hT1).alloc _ _ | exact ((hT1).alloc _ _).drew | exact ((hT1).drew).alloc _ _ | exact (((hT1).drew).alloc _ _).drew | exact ((hT1).alloc _ _).alloc _ _ | exact (((hT1).alloc _ _).alloc _ _).drew | exact (((hT1).alloc _ _).drew).alloc _ _ | exact ((((hT1).alloc _ _).drew).alloc _ _).drew | exact ((((hT1).drew).alloc _ _).alloc _ _).drew | exact T0 | exact (T0).drew | exact (T0).alloc _ _ | exact ((T0).alloc _ _).drew | exact ((T0).drew).alloc _ _ | exact (((T0).drew).alloc _ _).drew | exact ((T0).alloc _ _).alloc _ _ | exact (((T0).alloc _ _).alloc _ _).drew | exact (((T0).alloc _ _).drew).alloc _ _ | exact ((((T0).alloc _ _).drew).alloc _ _).drew | exact ((((T0).drew).alloc _ _).alloc _ _).drew)) (by rfl) (by rfl) (by simp) hw10 ?_); intro v1 w1 hT1)
                      | ((refine step_ah (by rfl) (.tmp 126) (.tmp 131) (by rfl) _ _ (xa, xc, m) (by (first | exact hT2 | exact (hT2).drew | exact (hT2).alloc _ _ | exact ((hT2).alloc _ _).drew | exact ((hT2).drew).alloc _ _ | exact (((hT2).drew).alloc _ _).drew | exact ((hT2).alloc _ _).alloc _ _ | exact (((hT2).alloc _ _).alloc _ _).drew | exact (((hT2).alloc _ _).drew).alloc _ _ | exact ((((hT2).alloc _ _).drew).alloc _ _).drew | exact ((((hT2).drew).alloc _ _).alloc _ _).drew | exact hT1 | exact (hT1).drew | exact (hT1).alloc _ _ | exact ((hT1).alloc _ _).drew | exact ((hT1).drew).alloc _ _ | exact (((hT1).drew).alloc _ _).drew | exact ((hT1).alloc _ _).alloc _ _ | exact (((hT1).alloc _ _).alloc _ _).drew | exact (((hT1).alloc _ _).drew).alloc _ _ | exact ((((hT1).alloc _ _).drew).alloc _ _).drew | exact ((((hT1).drew).alloc _ _).alloc _ _).drew | exact T0 | exact (T0).drew | exact (T0).alloc _ _ | exact ((T0).alloc _ _).drew | exact ((T0).drew).alloc _ _ | exact (((T0).drew).alloc _ _).drew | exact ((T0).alloc _ _).alloc _ _ | exact (((T0).alloc _ _).alloc _ _).drew | exact (((T0).alloc _ _).drew).alloc _ _ | exact ((((T0).alloc _ _).drew).alloc _ _).drew | exact ((((T0).drew).alloc _ _).alloc _ _).drew)) (by rfl) (by rfl) (by simp) hq10 ?_); intro v2 w2 hT2))
                  all_goals
                    go_wp2_with fail
                    go_roundw
                    case rel => first | exact rel_in hT2 (X := X ++ X') (i := i + 1) (by rw [← EA.out]; exact O9.out) (by rw [← EA.out]; exact BQ.out) LW.out MEM.out (by omega) _ (by go_num) | exact rel_in hT1 (X := X ++ X') (i := i + 1) (by rw [← EA.out]; exact O9.out) (by rw [← EA.out]; exact BQ.out) LW.out MEM.out (by omega) _ (by go_num)
                    case measure => simp [intOf]; omega
                · skip
                  cases hg : goodMs m
                  · have G := Lib.hid hg
                    clear hg hgd
                    have GD := Lib.hid (fun (W' : World) (k : Bk w V p p2 b1 hb F A z1 z2 tp (.slice wa ws.length cw) (.slice ha qs.length ch) ws qs W') => show Calls Tryz.prog 11 #[.slice xa m.length xc] W' _ from rgood_is G.out (HMM.out.below k.wd.below))
                    go_wp2_with fail
                    refine wp_region_held_drew (S := fun w' => w'.cell? ⟨b1, 0, none⟩ = some (.pointer (some ⟨p, 0, none⟩)) ∧ w'.cell? ⟨hb, 0, none⟩ = some (.int .i64 3) ∧ w'.cell? ⟨hb, 1, none⟩ = some (.int .i64 z1) ∧ w'.cell? ⟨hb, 2, none⟩ = some (.int .i64 z2) ∧ w'.cell? ⟨hb, 3, none⟩ = some (.int .i64 tp) ∧ w'.cell? ⟨lb, lo + i, none⟩ = some (.slice xa m.length xc)) (by kernel_rfl) (K9.out.cells HL.out HXI.out) (fun hH0 => ?_)
                    refine wpAnyH_take (i := 0) (oi := _) (v := ?_) (by simp only [List.getElem?_toArray, List.getElem?_cons_succ, List.getElem?_cons_zero]; rfl) (by kernel_rfl) (by kernel_rfl) (by kernel_rfl) (by exact fun _ _ _ h => h) (Or.inl ⟨by rfl, ?_⟩) (by assumption) ?_
                    rotate_left
                    · (intro w hSw; (try dsimp only at hSw); go_simp; try with_reducible rfl)
                    try simp only [Act.put, List.setIfInBounds_toArray, List.set_cons_zero, List.set_cons_succ]
                    refine wpAnyH_take (i := 1) (oi := _) (v := ?_) (by simp only [List.getElem?_toArray, List.getElem?_cons_succ, List.getElem?_cons_zero]; rfl) (by kernel_rfl) (by kernel_rfl) (by kernel_rfl) (by exact fun _ _ _ h => h) (Or.inl ⟨by rfl, ?_⟩) (by assumption) ?_
                    rotate_left
                    · (intro w hSw; (try dsimp only at hSw); go_simp; try with_reducible rfl)
                    try simp only [Act.put, List.setIfInBounds_toArray, List.set_cons_zero, List.set_cons_succ]
                    refine wpAnyH_take (i := 2) (oi := _) (v := ?_) (by simp only [List.getElem?_toArray, List.getElem?_cons_succ, List.getElem?_cons_zero]; rfl) (by kernel_rfl) (by kernel_rfl) (by kernel_rfl) (by exact fun _ _ _ h => h) (Or.inl ⟨by rfl, ?_⟩) (by assumption) ?_
                    rotate_left
                    · (intro w hSw; (try dsimp only at hSw); go_simp; try with_reducible rfl)
                    try simp only [Act.put, List.setIfInBounds_toArray, List.set_cons_zero, List.set_cons_succ]
                    refine wpAnyH_take (i := 3) (oi := _) (v := ?_) (by simp only [List.getElem?_toArray, List.getElem?_cons_succ, List.getElem?_cons_zero]; rfl) (by kernel_rfl) (by kernel_rfl) (by kernel_rfl) (by exact fun _ _ _ h => h) (Or.inl ⟨by rfl, ?_⟩) (by assumption) ?_
                    rotate_left
                    · (intro w hSw; (try dsimp only at hSw); go_simp; try with_reducible rfl)
                    try simp only [Act.put, List.setIfInBounds_toArray, List.set_cons_zero, List.set_cons_succ]
                    refine wpAnyH_take (i := 4) (oi := _) (v := ?_) (by simp only [List.getElem?_toArray, List.getElem?_cons_succ, List.getElem?_cons_zero]; rfl) (by kernel_rfl) (by kernel_rfl) (by kernel_rfl) (by exact fun _ _ _ h => h) (Or.inl ⟨by rfl, ?_⟩) (by assumption) ?_
                    rotate_left
                    · (intro w hSw; (try dsimp only at hSw); go_simp; try with_reducible rfl)
                    try simp only [Act.put, List.setIfInBounds_toArray, List.set_cons_zero, List.set_cons_succ]
                    refine wpAnyH_ready (rs := [5]) (by kernel_rfl) (by simp) ?_
                    refine AllReadyH.cons rfl (fun K hK => ?_) AllReadyH.nil
                    go_simp
                    refine (GD.out _ K9.out.drew).mono ?_
                    rintro e w10 ⟨rfl, hb10⟩
                    have K10 := Lib.hid (K9.out.drew.on hb10)
                    clear hb10
                    go_wp2_with fail
                    refine hK.out _ _ (K10.out.cells HL.out HXI.out) (fun hH1 => ?_)
                    clear hK K hH0
                    try simp only [Act.put, List.setIfInBounds_toArray, List.set_cons_zero, List.set_cons_succ]
                    refine wpAnyH_take (i := 6) (oi := _) (v := ?_) (by simp only [List.getElem?_toArray, List.getElem?_cons_succ, List.getElem?_cons_zero]; rfl) (by kernel_rfl) (by kernel_rfl) (by kernel_rfl) (by exact fun _ _ _ h => h) (Or.inl ⟨by rfl, ?_⟩) (by assumption) ?_
                    rotate_left
                    · (intro w hSw; (try dsimp only at hSw); go_simp; try with_reducible rfl)
                    try simp only [Act.put, List.setIfInBounds_toArray, List.set_cons_zero, List.set_cons_succ]
                    refine wpAnyH_take (i := 7) (oi := _) (v := undef) (by simp only [List.getElem?_toArray, List.getElem?_cons_succ, List.getElem?_cons_zero]; rfl) (by kernel_rfl) (by kernel_rfl) (by kernel_rfl) (by exact fun _ _ _ h => h) (Or.inr ⟨by rfl, rfl⟩) (by assumption) ?_
                    try simp only [Act.put, List.setIfInBounds_toArray, List.set_cons_zero, List.set_cons_succ]
                    refine wpAnyH_take (i := 8) (oi := _) (v := undef) (by simp only [List.getElem?_toArray, List.getElem?_cons_succ, List.getElem?_cons_zero]; rfl) (by kernel_rfl) (by kernel_rfl) (by kernel_rfl) (by exact fun _ _ _ h => h) (Or.inr ⟨by rfl, rfl⟩) (by assumption) ?_
                    try simp only [Act.put, List.setIfInBounds_toArray, List.set_cons_zero, List.set_cons_succ]
                    refine wpAnyH_take (i := 9) (oi := _) (v := undef) (by simp only [List.getElem?_toArray, List.getElem?_cons_succ, List.getElem?_cons_zero]; rfl) (by kernel_rfl) (by kernel_rfl) (by kernel_rfl) (by exact fun _ _ _ h => h) (Or.inr ⟨by rfl, rfl⟩) (by assumption) ?_
                    try simp only [Act.put, List.setIfInBounds_toArray, List.set_cons_zero, List.set_cons_succ]
                    refine wpAnyH_take (i := 10) (oi := _) (v := undef) (by simp only [List.getElem?_toArray, List.getElem?_cons_succ, List.getElem?_cons_zero]; rfl) (by kernel_rfl) (by kernel_rfl) (by kernel_rfl) (by exact fun _ _ _ h => h) (Or.inr ⟨by rfl, rfl⟩) (by assumption) ?_
                    try simp only [Act.put, List.setIfInBounds_toArray, List.set_cons_zero, List.set_cons_succ]
                    refine wpAnyH_take (i := 11) (oi := _) (v := undef) (by simp only [List.getElem?_toArray, List.getElem?_cons_succ, List.getElem?_cons_zero]; rfl) (by kernel_rfl) (by kernel_rfl) (by kernel_rfl) (by exact fun _ _ _ h => h) (Or.inr ⟨by rfl, rfl⟩) (by assumption) ?_
                    try simp only [Act.put, List.setIfInBounds_toArray, List.set_cons_zero, List.set_cons_succ]
                    refine wpAnyH_take (i := 12) (oi := _) (v := undef) (by simp only [List.getElem?_toArray, List.getElem?_cons_succ, List.getElem?_cons_zero]; rfl) (by kernel_rfl) (by kernel_rfl) (by kernel_rfl) (by exact fun _ _ _ h => h) (Or.inr ⟨by rfl, rfl⟩) (by assumption) ?_
                    try simp only [Act.put, List.setIfInBounds_toArray, List.set_cons_zero, List.set_cons_succ]
                    refine wpAnyH_take (i := 13) (oi := _) (v := undef) (by simp only [List.getElem?_toArray, List.getElem?_cons_succ, List.getElem?_cons_zero]; rfl) (by kernel_rfl) (by kernel_rfl) (by kernel_rfl) (by exact fun _ _ _ h => h) (Or.inr ⟨by rfl, rfl⟩) (by assumption) ?_
                    try simp only [Act.put, List.setIfInBounds_toArray, List.set_cons_zero, List.set_cons_succ]
                    refine wpAnyH_take (i := 14) (oi := _) (v := undef) (by simp only [List.getElem?_toArray, List.getElem?_cons_succ, List.getElem?_cons_zero]; rfl) (by kernel_rfl) (by kernel_rfl) (by kernel_rfl) (by exact fun _ _ _ h => h) (Or.inr ⟨by rfl, rfl⟩) (by assumption) ?_
                    try simp only [Act.put, List.setIfInBounds_toArray, List.set_cons_zero, List.set_cons_succ]
                    refine wpAnyH_take (i := 15) (oi := _) (v := undef) (by simp only [List.getElem?_toArray, List.getElem?_cons_succ, List.getElem?_cons_zero]; rfl) (by kernel_rfl) (by kernel_rfl) (by kernel_rfl) (by exact fun _ _ _ h => h) (Or.inr ⟨by rfl, rfl⟩) (by assumption) ?_
                    try simp only [Act.put, List.setIfInBounds_toArray, List.set_cons_zero, List.set_cons_succ]
                    refine wpAnyH_take (i := 16) (oi := _) (v := undef) (by simp only [List.getElem?_toArray, List.getElem?_cons_succ, List.getElem?_cons_zero]; rfl) (by kernel_rfl) (by kernel_rfl) (by kernel_rfl) (by exact fun _ _ _ h => h) (Or.inr ⟨by rfl, rfl⟩) (by assumption) ?_
                    try simp only [Act.put, List.setIfInBounds_toArray, List.set_cons_zero, List.set_cons_succ]
                    refine wpAnyH_take (i := 17) (oi := _) (v := undef) (by simp only [List.getElem?_toArray, List.getElem?_cons_succ, List.getElem?_cons_zero]; rfl) (by kernel_rfl) (by kernel_rfl) (by kernel_rfl) (by exact fun _ _ _ h => h) (Or.inr ⟨by rfl, rfl⟩) (by assumption) ?_
                    try simp only [Act.put, List.setIfInBounds_toArray, List.set_cons_zero, List.set_cons_succ]
                    refine wpAnyH_take (i := 18) (oi := _) (v := ?_) (by simp only [List.getElem?_toArray, List.getElem?_cons_succ, List.getElem?_cons_zero]; rfl) (by kernel_rfl) (by kernel_rfl) (by kernel_rfl) (by exact fun _ _ _ h => h) (Or.inl ⟨by rfl, ?_⟩) (by assumption) ?_
                    rotate_left
                    · (intro w hSw; (try dsimp only at hSw); go_simp; try with_reducible rfl)
                    try simp only [Act.put, List.setIfInBounds_toArray, List.set_cons_zero, List.set_cons_succ]
                    refine wpAnyH_take (i := 19) (oi := _) (v := ?_) (by simp only [List.getElem?_toArray, List.getElem?_cons_succ, List.getElem?_cons_zero]; rfl) (by kernel_rfl) (by kernel_rfl) (by kernel_rfl) (by exact fun _ _ _ h => h) (Or.inl ⟨by rfl, ?_⟩) (by assumption) ?_
                    rotate_left
                    · (intro w hSw; (try dsimp only at hSw); go_simp; try with_reducible rfl)
                    try simp only [Act.put, List.setIfInBounds_toArray, List.set_cons_zero, List.set_cons_succ]
                    refine wpAnyH_done (by kernel_rfl) ?_ _
                    go_wp2_with fail
                    go_roundw
                    case rel => exact ⟨i + 1, A, tp, ws, qs, wa, cw, ha, ch, X, by go_num, rfl, rfl, by omega, Lib.hid K10.out, HO, HQ, Lib.hid ⟨by have := HI.out.1; omega, HI.out.2⟩⟩
                    case measure => simp [intOf]; omega
                  · have G := Lib.hid hg
                    have hw : ¬ ((q : Int) ≤ z1 - tp) := by rw [hg] at hgd; simpa using hgd
                    clear hg hgd
                    have GD := Lib.hid (fun (W' : World) (k : Bk w V p p2 b1 hb F A z1 z2 tp (.slice wa ws.length cw) (.slice ha qs.length ch) ws qs W') => show Calls Tryz.prog 11 #[.slice xa m.length xc] W' _ from rgood_is G.out (HMM.out.below k.wd.below))
                    have WD := Lib.hid (fun (W' : World) (k : Bk w V p p2 b1 hb F A z1 z2 tp (.slice wa ws.length cw) (.slice ha qs.length ch) ws qs W') => show Calls Tryz.prog 12 #[.slice xa m.length xc] W' _ from rwords_is Q.out G.out (HMM.out.below k.wd.below))
                    have hz1 : IntKind.i64.wrap (z1 - tp) = z1 - tp := by rw [IntKind.wrap_i64]; omega
                    have hz3 : decide ((q : Int) ≤ z1 - tp) = false := decide_eq_false hw
                    go_wp2_with fail
                    refine wp_region_held_drew (S := fun w' => w'.cell? ⟨b1, 0, none⟩ = some (.pointer (some ⟨p, 0, none⟩)) ∧ w'.cell? ⟨hb, 0, none⟩ = some (.int .i64 3) ∧ w'.cell? ⟨hb, 1, none⟩ = some (.int .i64 z1) ∧ w'.cell? ⟨hb, 2, none⟩ = some (.int .i64 z2) ∧ w'.cell? ⟨hb, 3, none⟩ = some (.int .i64 tp) ∧ w'.cell? ⟨lb, lo + i, none⟩ = some (.slice xa m.length xc)) (by kernel_rfl) (K9.out.cells HL.out HXI.out) (fun hH0 => ?_)
                    refine wpAnyH_take (i := 0) (oi := _) (v := ?_) (by simp only [List.getElem?_toArray, List.getElem?_cons_succ, List.getElem?_cons_zero]; rfl) (by kernel_rfl) (by kernel_rfl) (by kernel_rfl) (by exact fun _ _ _ h => h) (Or.inl ⟨by rfl, ?_⟩) (by assumption) ?_
                    rotate_left
                    · (intro w hSw; (try dsimp only at hSw); go_simp; try with_reducible rfl)
                    try simp only [Act.put, List.setIfInBounds_toArray, List.set_cons_zero, List.set_cons_succ]
                    refine wpAnyH_take (i := 1) (oi := _) (v := ?_) (by simp only [List.getElem?_toArray, List.getElem?_cons_succ, List.getElem?_cons_zero]; rfl) (by kernel_rfl) (by kernel_rfl) (by kernel_rfl) (by exact fun _ _ _ h => h) (Or.inl ⟨by rfl, ?_⟩) (by assumption) ?_
                    rotate_left
                    · (intro w hSw; (try dsimp only at hSw); go_simp; try with_reducible rfl)
                    try simp only [Act.put, List.setIfInBounds_toArray, List.set_cons_zero, List.set_cons_succ]
                    refine wpAnyH_take (i := 2) (oi := _) (v := ?_) (by simp only [List.getElem?_toArray, List.getElem?_cons_succ, List.getElem?_cons_zero]; rfl) (by kernel_rfl) (by kernel_rfl) (by kernel_rfl) (by exact fun _ _ _ h => h) (Or.inl ⟨by rfl, ?_⟩) (by assumption) ?_
                    rotate_left
                    · (intro w hSw; (try dsimp only at hSw); go_simp; try with_reducible rfl)
                    try simp only [Act.put, List.setIfInBounds_toArray, List.set_cons_zero, List.set_cons_succ]
                    refine wpAnyH_take (i := 3) (oi := _) (v := ?_) (by simp only [List.getElem?_toArray, List.getElem?_cons_succ, List.getElem?_cons_zero]; rfl) (by kernel_rfl) (by kernel_rfl) (by kernel_rfl) (by exact fun _ _ _ h => h) (Or.inl ⟨by rfl, ?_⟩) (by assumption) ?_
                    rotate_left
                    · (intro w hSw; (try dsimp only at hSw); go_simp; try with_reducible rfl)
                    try simp only [Act.put, List.setIfInBounds_toArray, List.set_cons_zero, List.set_cons_succ]
                    refine wpAnyH_take (i := 4) (oi := _) (v := ?_) (by simp only [List.getElem?_toArray, List.getElem?_cons_succ, List.getElem?_cons_zero]; rfl) (by kernel_rfl) (by kernel_rfl) (by kernel_rfl) (by exact fun _ _ _ h => h) (Or.inl ⟨by rfl, ?_⟩) (by assumption) ?_
                    rotate_left
                    · (intro w hSw; (try dsimp only at hSw); go_simp; try with_reducible rfl)
                    try simp only [Act.put, List.setIfInBounds_toArray, List.set_cons_zero, List.set_cons_succ]
                    refine wpAnyH_ready (rs := [5]) (by kernel_rfl) (by simp) ?_
                    refine AllReadyH.cons rfl (fun K hK => ?_) AllReadyH.nil
                    go_simp
                    refine (GD.out _ K9.out.drew).mono ?_
                    rintro e w10 ⟨rfl, hb10⟩
                    have K10 := Lib.hid (K9.out.drew.on hb10)
                    have G10 := Lib.hid (G9.out.drew.below hb10 G9.out.lt)
                    clear hb10
                    go_wp2_with fail
                    refine hK.out _ _ (K10.out.cells HL.out HXI.out) (fun hH1 => ?_)
                    clear hK K hH0
                    try simp only [Act.put, List.setIfInBounds_toArray, List.set_cons_zero, List.set_cons_succ]
                    refine wpAnyH_take (i := 6) (oi := _) (v := ?_) (by simp only [List.getElem?_toArray, List.getElem?_cons_succ, List.getElem?_cons_zero]; rfl) (by kernel_rfl) (by kernel_rfl) (by kernel_rfl) (by exact fun _ _ _ h => h) (Or.inl ⟨by rfl, ?_⟩) (by assumption) ?_
                    rotate_left
                    · (intro w hSw; (try dsimp only at hSw); go_simp; try with_reducible rfl)
                    try simp only [Act.put, List.setIfInBounds_toArray, List.set_cons_zero, List.set_cons_succ]
                    refine wpAnyH_take (i := 7) (oi := _) (v := ?_) (by simp only [List.getElem?_toArray, List.getElem?_cons_succ, List.getElem?_cons_zero]; rfl) (by kernel_rfl) (by kernel_rfl) (by kernel_rfl) (by exact fun _ _ _ h => h) (Or.inl ⟨by rfl, ?_⟩) (by assumption) ?_
                    rotate_left
                    · (intro w hSw; (try dsimp only at hSw); go_simp; try with_reducible rfl)
                    try simp only [Act.put, List.setIfInBounds_toArray, List.set_cons_zero, List.set_cons_succ]
                    refine wpAnyH_take (i := 8) (oi := _) (v := ?_) (by simp only [List.getElem?_toArray, List.getElem?_cons_succ, List.getElem?_cons_zero]; rfl) (by kernel_rfl) (by kernel_rfl) (by kernel_rfl) (by exact fun _ _ _ h => h) (Or.inl ⟨by rfl, ?_⟩) (by assumption) ?_
                    rotate_left
                    · (intro w hSw; (try dsimp only at hSw); go_simp; try with_reducible rfl)
                    try simp only [Act.put, List.setIfInBounds_toArray, List.set_cons_zero, List.set_cons_succ]
                    refine wpAnyH_take (i := 9) (oi := _) (v := ?_) (by simp only [List.getElem?_toArray, List.getElem?_cons_succ, List.getElem?_cons_zero]; rfl) (by kernel_rfl) (by kernel_rfl) (by kernel_rfl) (by exact fun _ _ _ h => h) (Or.inl ⟨by rfl, ?_⟩) (by assumption) ?_
                    rotate_left
                    · (intro w hSw; (try dsimp only at hSw); go_simp; try with_reducible rfl)
                    try simp only [Act.put, List.setIfInBounds_toArray, List.set_cons_zero, List.set_cons_succ]
                    refine wpAnyH_take (i := 10) (oi := _) (v := ?_) (by simp only [List.getElem?_toArray, List.getElem?_cons_succ, List.getElem?_cons_zero]; rfl) (by kernel_rfl) (by kernel_rfl) (by kernel_rfl) (by exact fun _ _ _ h => h) (Or.inl ⟨by rfl, ?_⟩) (by assumption) ?_
                    rotate_left
                    · (intro w hSw; (try dsimp only at hSw); go_simp; try with_reducible rfl)
                    try simp only [Act.put, List.setIfInBounds_toArray, List.set_cons_zero, List.set_cons_succ]
                    refine wpAnyH_take (i := 11) (oi := _) (v := ?_) (by simp only [List.getElem?_toArray, List.getElem?_cons_succ, List.getElem?_cons_zero]; rfl) (by kernel_rfl) (by kernel_rfl) (by kernel_rfl) (by exact fun _ _ _ h => h) (Or.inl ⟨by rfl, ?_⟩) (by assumption) ?_
                    rotate_left
                    · (intro w hSw; (try dsimp only at hSw); go_simp; try with_reducible rfl)
                    try simp only [Act.put, List.setIfInBounds_toArray, List.set_cons_zero, List.set_cons_succ]
                    refine wpAnyH_take (i := 12) (oi := _) (v := ?_) (by simp only [List.getElem?_toArray, List.getElem?_cons_succ, List.getElem?_cons_zero]; rfl) (by kernel_rfl) (by kernel_rfl) (by kernel_rfl) (by exact fun _ _ _ h => h) (Or.inl ⟨by rfl, ?_⟩) (by assumption) ?_
                    rotate_left
                    · (intro w hSw; (try dsimp only at hSw); go_simp; try with_reducible rfl)
                    try simp only [Act.put, List.setIfInBounds_toArray, List.set_cons_zero, List.set_cons_succ]
                    refine wpAnyH_take (i := 13) (oi := _) (v := ?_) (by simp only [List.getElem?_toArray, List.getElem?_cons_succ, List.getElem?_cons_zero]; rfl) (by kernel_rfl) (by kernel_rfl) (by kernel_rfl) (by exact fun _ _ _ h => h) (Or.inl ⟨by rfl, ?_⟩) (by assumption) ?_
                    rotate_left
                    · (intro w hSw; (try dsimp only at hSw); go_simp; try with_reducible rfl)
                    try simp only [Act.put, List.setIfInBounds_toArray, List.set_cons_zero, List.set_cons_succ]
                    refine wpAnyH_take (i := 14) (oi := _) (v := ?_) (by simp only [List.getElem?_toArray, List.getElem?_cons_succ, List.getElem?_cons_zero]; rfl) (by kernel_rfl) (by kernel_rfl) (by kernel_rfl) (by exact fun _ _ _ h => h) (Or.inl ⟨by rfl, ?_⟩) (by assumption) ?_
                    rotate_left
                    · (intro w hSw; (try dsimp only at hSw); go_simp; try with_reducible rfl)
                    try simp only [Act.put, List.setIfInBounds_toArray, List.set_cons_zero, List.set_cons_succ]
                    refine wpAnyH_take (i := 15) (oi := _) (v := ?_) (by simp only [List.getElem?_toArray, List.getElem?_cons_succ, List.getElem?_cons_zero]; rfl) (by kernel_rfl) (by kernel_rfl) (by kernel_rfl) (by exact fun _ _ _ h => h) (Or.inl ⟨by rfl, ?_⟩) (by assumption) ?_
                    rotate_left
                    · (intro w hSw; (try dsimp only at hSw); go_simp; try with_reducible rfl)
                    try simp only [Act.put, List.setIfInBounds_toArray, List.set_cons_zero, List.set_cons_succ]
                    refine wpAnyH_ready (rs := [16]) (by kernel_rfl) (by simp) ?_
                    refine AllReadyH.cons rfl (fun K hK => ?_) AllReadyH.nil
                    go_simp
                    refine (WD.out _ K10.out).mono ?_
                    rintro e w11 ⟨rfl, hb11⟩
                    have K11 := Lib.hid (K10.out.on hb11)
                    have G11 := Lib.hid (G10.out.below hb11 G10.out.lt)
                    clear hb11
                    go_wp2_with fail
                    refine hK.out _ _ (K11.out.cells HL.out HXI.out) (fun hH2 => ?_)
                    clear hK K hH1
                    try simp only [Act.put, List.setIfInBounds_toArray, List.set_cons_zero, List.set_cons_succ]
                    refine wpAnyH_take (i := 17) (oi := _) (v := ?_) (by simp only [List.getElem?_toArray, List.getElem?_cons_succ, List.getElem?_cons_zero]; rfl) (by kernel_rfl) (by kernel_rfl) (by kernel_rfl) (by exact fun _ _ _ h => h) (Or.inl ⟨by rfl, ?_⟩) (by assumption) ?_
                    rotate_left
                    · (intro w hSw; (try dsimp only at hSw); go_simp; try with_reducible rfl)
                    try simp only [Act.put, List.setIfInBounds_toArray, List.set_cons_zero, List.set_cons_succ]
                    refine wpAnyH_take (i := 18) (oi := _) (v := ?_) (by simp only [List.getElem?_toArray, List.getElem?_cons_succ, List.getElem?_cons_zero]; rfl) (by kernel_rfl) (by kernel_rfl) (by kernel_rfl) (by exact fun _ _ _ h => h) (Or.inl ⟨by rfl, ?_⟩) (by assumption) ?_
                    rotate_left
                    · (intro w hSw; (try dsimp only at hSw); go_simp; try with_reducible rfl)
                    try simp only [Act.put, List.setIfInBounds_toArray, List.set_cons_zero, List.set_cons_succ]
                    refine wpAnyH_take (i := 19) (oi := _) (v := ?_) (by simp only [List.getElem?_toArray, List.getElem?_cons_succ, List.getElem?_cons_zero]; rfl) (by kernel_rfl) (by kernel_rfl) (by kernel_rfl) (by exact fun _ _ _ h => h) (Or.inl ⟨by rfl, ?_⟩) (by assumption) ?_
                    rotate_left
                    · (intro w hSw; (try dsimp only at hSw); go_simp; try with_reducible rfl)
                    try simp only [Act.put, List.setIfInBounds_toArray, List.set_cons_zero, List.set_cons_succ]
                    refine wpAnyH_done (by kernel_rfl) ?_ _
                    go_wp2_with fail
                    go_roundw
                    case rel => exact ⟨i + 1, A, tp, ws, qs, wa, cw, ha, ch, X, by go_num, rfl, rfl, by omega, Lib.hid K11.out, HO, HQ, Lib.hid ⟨by have := HI.out.1; omega, HI.out.2⟩⟩
                    case measure => simp [intOf]; omega
          · obtain rfl : i = l.length := by omega
            have hw8 : ws.length ≤ 8 := by have := HI.out.1; omega
            obtain ⟨wo, rfl⟩ : ∃ wo : World, wo = wr := ⟨_, rfl⟩
            go_wp2_with fail
            go_loopw [17] (fun vj wr => ∃ j : Nat, vj = .int .i64 j ∧ j ≤ ws.length ∧ Hid (Bk w V p p2 b1 hb F A z1 z2 tp (.slice wa ws.length cw) (.slice ha qs.length ch) ws qs wr)) (fun vj _ => ws.length - (intOf vj).toNat)
            case atStart => exact ⟨0, rfl, Nat.zero_le _, HK⟩
            case round =>
              obtain ⟨j, rfl, hj, HJ⟩ := hrel
              by_cases hjl : j < ws.length
              · skip
                obtain ⟨x, hx⟩ : ∃ x, ws[j]? = some x := ⟨_, List.getElem?_eq_getElem hjl⟩
                have hql : j < qs.length := by have := HQ.out.1; omega
                obtain ⟨⟨xa, xc, m⟩, hq⟩ : ∃ y, qs[j]? = some y := ⟨_, List.getElem?_eq_getElem hql⟩
                obtain ⟨h1, h2, h3, c, r, h4, h5⟩ := HQ.out.2 j x _ hx hq
                have OL := Lib.hid (show outL (z2 * z1) (obs ++ X) [x] m from h1)
                have GM := Lib.hid (show goodMs m = true from h2)
                have FX := Lib.hid h3
                have MC := Lib.hid (show m = c :: r from h4)
                have WI := Lib.hid h5
                have XJ := Lib.hid hx
                have QJ := Lib.hid hq
                have HME := Lib.hid (HI.out.2 _ (List.mem_of_getElem? hq))
                have HMM := Lib.hid (show rdAt (fun k => w.heap.size ≤ k) w (.slice xa m.length xc) m.length (ceL m) from HM.out _ HME.out)
                have hml : 0 < m.length := by rw [MC.out]; simp
                have hm1 : m.length ≤ 100 := (goodMs_iff.1 GM.out).1
                obtain ⟨wg, hwg⟩ := own_addr HJ.out.ow (by omega)
                obtain ⟨hg, hhg⟩ := own_addr HJ.out.oh (by omega)
                obtain ⟨mb, mo, hmb⟩ := rd_addr HMM.out (by omega)
                subst hwg hhg hmb
                clear h1 h2 h3 h4 h5 hx hq
                have CL := Lib.hid (fun (W' : World) (k : Bk w V p p2 b1 hb F A z1 z2 tp (.slice (some ⟨wg, 0, none⟩) ws.length cw) (.slice (some ⟨hg, 0, none⟩) qs.length ch) ws qs W') => k.cellsQ XJ.out QJ.out)
                have CM := Lib.hid (fun (W' : World) (k : Bk w V p p2 b1 hb F A z1 z2 tp (.slice (some ⟨wg, 0, none⟩) ws.length cw) (.slice (some ⟨hg, 0, none⟩) qs.length ch) ws qs W') => show W'.cell? ⟨mb, mo, none⟩ = some (.int .i64 c.1) from rd_el (HMM.out.below k.wd.below) (i := 0) hml (by rw [MC.out]; rfl))
                obtain ⟨c0, c1, c2, c3, c4, c5, c6⟩ := CL.out _ HJ.out
                go_wp2_with fail
                refine wp_region_held_drew (S := fun w' => w'.cell? ⟨b1, 0, none⟩ = some (.pointer (some ⟨p, 0, none⟩)) ∧ w'.cell? ⟨hb, 0, none⟩ = some (.int .i64 3) ∧ w'.cell? ⟨hb, 1, none⟩ = some (.int .i64 z1) ∧ w'.cell? ⟨hb, 2, none⟩ = some (.int .i64 z2) ∧ w'.cell? ⟨hb, 3, none⟩ = some (.int .i64 tp) ∧ w'.cell? ⟨wg, j, none⟩ = some (.int .u64 x) ∧ w'.cell? ⟨hg, j, none⟩ = some (.slice (some ⟨mb, mo, none⟩) m.length xc)) (by kernel_rfl) (CL.out _ HJ.out.drew) (fun hH0 => ?_)
                refine wpAnyH_take (i := 0) (oi := _) (v := ?_) (by simp only [List.getElem?_toArray, List.getElem?_cons_succ, List.getElem?_cons_zero]; rfl) (by kernel_rfl) (by kernel_rfl) (by kernel_rfl) (by exact fun _ _ _ h => h) (Or.inl ⟨by rfl, ?_⟩) (by assumption) ?_
                rotate_left
                · (intro w hSw; (try dsimp only at hSw); go_simp; try with_reducible rfl)
                try simp only [Act.put, List.setIfInBounds_toArray, List.set_cons_zero, List.set_cons_succ]
                refine wpAnyH_take (i := 1) (oi := _) (v := ?_) (by simp only [List.getElem?_toArray, List.getElem?_cons_succ, List.getElem?_cons_zero]; rfl) (by kernel_rfl) (by kernel_rfl) (by kernel_rfl) (by exact fun _ _ _ h => h) (Or.inl ⟨by rfl, ?_⟩) (by assumption) ?_
                rotate_left
                · (intro w hSw; (try dsimp only at hSw); go_simp; try with_reducible rfl)
                try simp only [Act.put, List.setIfInBounds_toArray, List.set_cons_zero, List.set_cons_succ]
                refine wpAnyH_take (i := 2) (oi := _) (v := ?_) (by simp only [List.getElem?_toArray, List.getElem?_cons_succ, List.getElem?_cons_zero]; rfl) (by kernel_rfl) (by kernel_rfl) (by kernel_rfl) (by exact fun _ _ _ h => h) (Or.inl ⟨by rfl, ?_⟩) (by assumption) ?_
                rotate_left
                · (intro w hSw; (try dsimp only at hSw); go_simp; try with_reducible rfl)
                try simp only [Act.put, List.setIfInBounds_toArray, List.set_cons_zero, List.set_cons_succ]
                refine wpAnyH_take (i := 3) (oi := _) (v := ?_) (by simp only [List.getElem?_toArray, List.getElem?_cons_succ, List.getElem?_cons_zero]; rfl) (by kernel_rfl) (by kernel_rfl) (by kernel_rfl) (by exact fun _ _ _ h => h) (Or.inl ⟨by rfl, ?_⟩) (by assumption) ?_
                rotate_left
                · (intro w hSw; (try dsimp only at hSw); go_simp; try with_reducible rfl)
                try simp only [Act.put, List.setIfInBounds_toArray, List.set_cons_zero, List.set_cons_succ]
                refine wpAnyH_take (i := 4) (oi := _) (v := ?_) (by simp only [List.getElem?_toArray, List.getElem?_cons_succ, List.getElem?_cons_zero]; rfl) (by kernel_rfl) (by kernel_rfl) (by kernel_rfl) (by exact fun _ _ _ h => h) (Or.inl ⟨by rfl, ?_⟩) (by assumption) ?_
                rotate_left
                · (intro w hSw; (try dsimp only at hSw); go_simp; try with_reducible rfl)
                try simp only [Act.put, List.setIfInBounds_toArray, List.set_cons_zero, List.set_cons_succ]
                refine wpAnyH_take (i := 5) (oi := _) (v := ?_) (by simp only [List.getElem?_toArray, List.getElem?_cons_succ, List.getElem?_cons_zero]; rfl) (by kernel_rfl) (by kernel_rfl) (by kernel_rfl) (by exact fun _ _ _ h => h) (Or.inl ⟨by rfl, ?_⟩) (by assumption) ?_
                rotate_left
                · (intro w hSw; (try dsimp only at hSw); go_simp; try with_reducible rfl)
                try simp only [Act.put, List.setIfInBounds_toArray, List.set_cons_zero, List.set_cons_succ]
                refine wpAnyH_take (i := 6) (oi := _) (v := ?_) (by simp only [List.getElem?_toArray, List.getElem?_cons_succ, List.getElem?_cons_zero]; rfl) (by kernel_rfl) (by kernel_rfl) (by kernel_rfl) (by exact fun _ _ _ h => h) (Or.inl ⟨by rfl, ?_⟩) (by assumption) ?_
                rotate_left
                · (intro w hSw; (try dsimp only at hSw); go_simp; try with_reducible rfl)
                try simp only [Act.put, List.setIfInBounds_toArray, List.set_cons_zero, List.set_cons_succ]
                refine wpAnyH_ready (rs := [7]) (by kernel_rfl) (by simp) ?_
                refine AllReadyH.cons rfl (fun K hK => ?_) AllReadyH.nil
                go_simp
                refine (out_is HJ.out.drew HO.out FX.out OL.out GM.out).mono ?_
                rintro e w11 ⟨hb11, oa, oc, rfl, hm11⟩
                have K11 := Lib.hid (HJ.out.drew.on hb11)
                have M11 := Lib.hid hm11
                clear hb11 hm11
                go_wp2_with fail
                refine hK.out _ _ (CL.out _ K11.out) (fun hH1 => ?_)
                clear hK K hH0
                try simp only [Act.put, List.setIfInBounds_toArray, List.set_cons_zero, List.set_cons_succ]
                refine wpAnyH_take (i := 8) (oi := _) (v := ?_) (by simp only [List.getElem?_toArray, List.getElem?_cons_succ, List.getElem?_cons_zero]; rfl) (by kernel_rfl) (by kernel_rfl) (by kernel_rfl) (by exact fun _ _ _ h => h) (Or.inl ⟨by rfl, ?_⟩) (by assumption) ?_
                rotate_left
                · (intro w hSw; (try dsimp only at hSw); go_simp; try with_reducible rfl)
                try simp only [Act.put, List.setIfInBounds_toArray, List.set_cons_zero, List.set_cons_succ]
                refine wpAnyH_take (i := 9) (oi := _) (v := ?_) (by simp only [List.getElem?_toArray, List.getElem?_cons_succ, List.getElem?_cons_zero]; rfl) (by kernel_rfl) (by kernel_rfl) (by kernel_rfl) (by exact fun _ _ _ h => h) (Or.inl ⟨by rfl, ?_⟩) (by assumption) ?_
                rotate_left
                · (intro w hSw; (try dsimp only at hSw); go_simp; try with_reducible rfl)
                try simp only [Act.put, List.setIfInBounds_toArray, List.set_cons_zero, List.set_cons_succ]
                refine wpAnyH_take (i := 10) (oi := _) (v := ?_) (by simp only [List.getElem?_toArray, List.getElem?_cons_succ, List.getElem?_cons_zero]; rfl) (by kernel_rfl) (by kernel_rfl) (by kernel_rfl) (by exact fun _ _ _ h => h) (Or.inl ⟨by rfl, ?_⟩) (by assumption) ?_
                rotate_left
                · (intro w hSw; (try dsimp only at hSw); go_simp; try with_reducible rfl)
                try simp only [Act.put, List.setIfInBounds_toArray, List.set_cons_zero, List.set_cons_succ]
                refine wpAnyH_take (i := 11) (oi := _) (v := ?_) (by simp only [List.getElem?_toArray, List.getElem?_cons_succ, List.getElem?_cons_zero]; rfl) (by kernel_rfl) (by kernel_rfl) (by kernel_rfl) (by exact fun _ _ _ h => h) (Or.inl ⟨by rfl, ?_⟩) (by assumption) ?_
                rotate_left
                · (intro w hSw; (try dsimp only at hSw); go_simp; try with_reducible rfl)
                try simp only [Act.put, List.setIfInBounds_toArray, List.set_cons_zero, List.set_cons_succ]
                refine wpAnyH_take (i := 12) (oi := _) (v := ?_) (by simp only [List.getElem?_toArray, List.getElem?_cons_succ, List.getElem?_cons_zero]; rfl) (by kernel_rfl) (by kernel_rfl) (by kernel_rfl) (by exact fun _ _ _ h => h) (Or.inl ⟨by rfl, ?_⟩) (by assumption) ?_
                rotate_left
                · (intro w hSw; (try dsimp only at hSw); go_simp; try with_reducible rfl)
                try simp only [Act.put, List.setIfInBounds_toArray, List.set_cons_zero, List.set_cons_succ]
                refine wpAnyH_done (by kernel_rfl) ?_ _
                go_wp2_with fail
                cases hk : decide (c.1 = 0)
                · have wi : wIs x = false := by rw [WI.out, hk]
                  have WJ := Lib.hid wi
                  have hk0 : (c.1 == 0) = false := by simpa using hk
                  clear wi hk
                  refine wp_region_held_drew (S := fun w' => w'.cell? ⟨b1, 0, none⟩ = some (.pointer (some ⟨p, 0, none⟩)) ∧ w'.cell? ⟨hb, 0, none⟩ = some (.int .i64 3) ∧ w'.cell? ⟨hb, 1, none⟩ = some (.int .i64 z1) ∧ w'.cell? ⟨hb, 2, none⟩ = some (.int .i64 z2) ∧ w'.cell? ⟨hb, 3, none⟩ = some (.int .i64 tp) ∧ w'.cell? ⟨wg, j, none⟩ = some (.int .u64 x) ∧ w'.cell? ⟨hg, j, none⟩ = some (.slice (some ⟨mb, mo, none⟩) m.length xc) ∧ w'.cell? ⟨mb, mo, none⟩ = some (.int .i64 c.1)) (by kernel_rfl) (⟨(CL.out _ K11.out).1, (CL.out _ K11.out).2.1, (CL.out _ K11.out).2.2.1, (CL.out _ K11.out).2.2.2.1, (CL.out _ K11.out).2.2.2.2.1, (CL.out _ K11.out).2.2.2.2.2.1, (CL.out _ K11.out).2.2.2.2.2.2, CM.out _ K11.out.drew⟩) (fun hH0 => ?_)
                  refine wpAnyH_take (i := 0) (oi := _) (v := ?_) (by simp only [List.getElem?_toArray, List.getElem?_cons_succ, List.getElem?_cons_zero]; rfl) (by kernel_rfl) (by kernel_rfl) (by kernel_rfl) (by exact fun _ _ _ h => h) (Or.inl ⟨by rfl, ?_⟩) (by assumption) ?_
                  rotate_left
                  · (intro w hSw; (try dsimp only at hSw); go_simp; try with_reducible rfl)
                  try simp only [Act.put, List.setIfInBounds_toArray, List.set_cons_zero, List.set_cons_succ]
                  refine wpAnyH_take (i := 1) (oi := _) (v := ?_) (by simp only [List.getElem?_toArray, List.getElem?_cons_succ, List.getElem?_cons_zero]; rfl) (by kernel_rfl) (by kernel_rfl) (by kernel_rfl) (by exact fun _ _ _ h => h) (Or.inl ⟨by rfl, ?_⟩) (by assumption) ?_
                  rotate_left
                  · (intro w hSw; (try dsimp only at hSw); go_simp; try with_reducible rfl)
                  try simp only [Act.put, List.setIfInBounds_toArray, List.set_cons_zero, List.set_cons_succ]
                  refine wpAnyH_take (i := 2) (oi := _) (v := ?_) (by simp only [List.getElem?_toArray, List.getElem?_cons_succ, List.getElem?_cons_zero]; rfl) (by kernel_rfl) (by kernel_rfl) (by kernel_rfl) (by exact fun _ _ _ h => h) (Or.inl ⟨by rfl, ?_⟩) (by assumption) ?_
                  rotate_left
                  · (intro w hSw; (try dsimp only at hSw); go_simp; try with_reducible rfl)
                  try simp only [Act.put, List.setIfInBounds_toArray, List.set_cons_zero, List.set_cons_succ]
                  refine wpAnyH_take (i := 3) (oi := _) (v := ?_) (by simp only [List.getElem?_toArray, List.getElem?_cons_succ, List.getElem?_cons_zero]; rfl) (by kernel_rfl) (by kernel_rfl) (by kernel_rfl) (by exact fun _ _ _ h => h) (Or.inl ⟨by rfl, ?_⟩) (by assumption) ?_
                  rotate_left
                  · (intro w hSw; (try dsimp only at hSw); go_simp; try with_reducible rfl)
                  try simp only [Act.put, List.setIfInBounds_toArray, List.set_cons_zero, List.set_cons_succ]
                  refine wpAnyH_take (i := 4) (oi := _) (v := ?_) (by simp only [List.getElem?_toArray, List.getElem?_cons_succ, List.getElem?_cons_zero]; rfl) (by kernel_rfl) (by kernel_rfl) (by kernel_rfl) (by exact fun _ _ _ h => h) (Or.inl ⟨by rfl, ?_⟩) (by assumption) ?_
                  rotate_left
                  · (intro w hSw; (try dsimp only at hSw); go_simp; try with_reducible rfl)
                  try simp only [Act.put, List.setIfInBounds_toArray, List.set_cons_zero, List.set_cons_succ]
                  refine wpAnyH_take (i := 5) (oi := _) (v := ?_) (by simp only [List.getElem?_toArray, List.getElem?_cons_succ, List.getElem?_cons_zero]; rfl) (by kernel_rfl) (by kernel_rfl) (by kernel_rfl) (by exact fun _ _ _ h => h) (Or.inl ⟨by rfl, ?_⟩) (by assumption) ?_
                  rotate_left
                  · (intro w hSw; (try dsimp only at hSw); go_simp; try with_reducible rfl)
                  try simp only [Act.put, List.setIfInBounds_toArray, List.set_cons_zero, List.set_cons_succ]
                  refine wpAnyH_take (i := 6) (oi := _) (v := ?_) (by simp only [List.getElem?_toArray, List.getElem?_cons_succ, List.getElem?_cons_zero]; rfl) (by kernel_rfl) (by kernel_rfl) (by kernel_rfl) (by exact fun _ _ _ h => h) (Or.inl ⟨by rfl, ?_⟩) (by assumption) ?_
                  rotate_left
                  · (intro w hSw; (try dsimp only at hSw); go_simp; try with_reducible rfl)
                  try simp only [Act.put, List.setIfInBounds_toArray, List.set_cons_zero, List.set_cons_succ]
                  refine wpAnyH_take (i := 7) (oi := _) (v := ?_) (by simp only [List.getElem?_toArray, List.getElem?_cons_succ, List.getElem?_cons_zero]; rfl) (by kernel_rfl) (by kernel_rfl) (by kernel_rfl) (by exact fun _ _ _ h => h) (Or.inl ⟨by rfl, ?_⟩) (by assumption) ?_
                  rotate_left
                  · (intro w hSw; (try dsimp only at hSw); go_simp; try with_reducible rfl)
                  try simp only [Act.put, List.setIfInBounds_toArray, List.set_cons_zero, List.set_cons_succ]
                  refine wpAnyH_ready (rs := [8]) (by kernel_rfl) (by simp) ?_
                  refine AllReadyH.cons rfl (fun K hK => ?_) AllReadyH.nil
                  go_simp
                  refine (keepMessage_is (B := true) (M11.out.below (bl_drew (Below.refl _ _))) (HMM.out.below K11.out.drew.wd.below) (by omega) ⟨fun _ => rfl, fun _ => rfl⟩).mono ?_
                  rintro e w12 ⟨rfl, hb12⟩
                  have K12 := Lib.hid (K11.out.drew.on hb12)
                  clear hb12
                  go_wp2_with fail
                  refine hK.out _ _ (⟨(CL.out _ K12.out).1, (CL.out _ K12.out).2.1, (CL.out _ K12.out).2.2.1, (CL.out _ K12.out).2.2.2.1, (CL.out _ K12.out).2.2.2.2.1, (CL.out _ K12.out).2.2.2.2.2.1, (CL.out _ K12.out).2.2.2.2.2.2, CM.out _ K12.out⟩) (fun hH1 => ?_)
                  clear hK K hH0
                  try simp only [Act.put, List.setIfInBounds_toArray, List.set_cons_zero, List.set_cons_succ]
                  refine wpAnyH_take (i := 9) (oi := _) (v := ?_) (by simp only [List.getElem?_toArray, List.getElem?_cons_succ, List.getElem?_cons_zero]; rfl) (by kernel_rfl) (by kernel_rfl) (by kernel_rfl) (by exact fun _ _ _ h => h) (Or.inl ⟨by rfl, ?_⟩) (by assumption) ?_
                  rotate_left
                  · (intro w hSw; (try dsimp only at hSw); go_simp; try with_reducible rfl)
                  try simp only [Act.put, List.setIfInBounds_toArray, List.set_cons_zero, List.set_cons_succ]
                  refine wpAnyH_take (i := 10) (oi := _) (v := ?_) (by simp only [List.getElem?_toArray, List.getElem?_cons_succ, List.getElem?_cons_zero]; rfl) (by kernel_rfl) (by kernel_rfl) (by kernel_rfl) (by exact fun _ _ _ h => h) (Or.inl ⟨by rfl, ?_⟩) (by assumption) ?_
                  rotate_left
                  · (intro w hSw; (try dsimp only at hSw); go_simp; try with_reducible rfl)
                  try simp only [Act.put, List.setIfInBounds_toArray, List.set_cons_zero, List.set_cons_succ]
                  refine wpAnyH_take (i := 11) (oi := _) (v := ?_) (by simp only [List.getElem?_toArray, List.getElem?_cons_succ, List.getElem?_cons_zero]; rfl) (by kernel_rfl) (by kernel_rfl) (by kernel_rfl) (by exact fun _ _ _ h => h) (Or.inl ⟨by rfl, ?_⟩) (by assumption) ?_
                  rotate_left
                  · (intro w hSw; (try dsimp only at hSw); go_simp; try with_reducible rfl)
                  try simp only [Act.put, List.setIfInBounds_toArray, List.set_cons_zero, List.set_cons_succ]
                  refine wpAnyH_take (i := 12) (oi := _) (v := ?_) (by simp only [List.getElem?_toArray, List.getElem?_cons_succ, List.getElem?_cons_zero]; rfl) (by kernel_rfl) (by kernel_rfl) (by kernel_rfl) (by exact fun _ _ _ h => h) (Or.inl ⟨by rfl, ?_⟩) (by assumption) ?_
                  rotate_left
                  · (intro w hSw; (try dsimp only at hSw); go_simp; try with_reducible rfl)
                  try simp only [Act.put, List.setIfInBounds_toArray, List.set_cons_zero, List.set_cons_succ]
                  refine wpAnyH_take (i := 13) (oi := _) (v := ?_) (by simp only [List.getElem?_toArray, List.getElem?_cons_succ, List.getElem?_cons_zero]; rfl) (by kernel_rfl) (by kernel_rfl) (by kernel_rfl) (by exact fun _ _ _ h => h) (Or.inl ⟨by rfl, ?_⟩) (by assumption) ?_
                  rotate_left
                  · (intro w hSw; (try dsimp only at hSw); go_simp; try with_reducible rfl)
                  try simp only [Act.put, List.setIfInBounds_toArray, List.set_cons_zero, List.set_cons_succ]
                  refine wpAnyH_take (i := 14) (oi := _) (v := ?_) (by simp only [List.getElem?_toArray, List.getElem?_cons_succ, List.getElem?_cons_zero]; rfl) (by kernel_rfl) (by kernel_rfl) (by kernel_rfl) (by exact fun _ _ _ h => h) (Or.inl ⟨by rfl, ?_⟩) (by assumption) ?_
                  rotate_left
                  · (intro w hSw; (try dsimp only at hSw); go_simp; try with_reducible rfl)
                  try simp only [Act.put, List.setIfInBounds_toArray, List.set_cons_zero, List.set_cons_succ]
                  refine wpAnyH_take (i := 15) (oi := _) (v := ?_) (by simp only [List.getElem?_toArray, List.getElem?_cons_succ, List.getElem?_cons_zero]; rfl) (by kernel_rfl) (by kernel_rfl) (by kernel_rfl) (by exact fun _ _ _ h => h) (Or.inl ⟨by rfl, ?_⟩) (by assumption) ?_
                  rotate_left
                  · (intro w hSw; (try dsimp only at hSw); go_simp; try with_reducible rfl)
                  try simp only [Act.put, List.setIfInBounds_toArray, List.set_cons_zero, List.set_cons_succ]
                  refine wpAnyH_take (i := 17) (oi := _) (v := ?_) (by simp only [List.getElem?_toArray, List.getElem?_cons_succ, List.getElem?_cons_zero]; rfl) (by kernel_rfl) (by kernel_rfl) (by kernel_rfl) (by exact fun _ _ _ h => h) (Or.inl ⟨by rfl, ?_⟩) (by assumption) ?_
                  rotate_left
                  · (intro w hSw; (try dsimp only at hSw); go_simp; try with_reducible rfl)
                  try simp only [Act.put, List.setIfInBounds_toArray, List.set_cons_zero, List.set_cons_succ]
                  refine wpAnyH_take (i := 18) (oi := _) (v := ?_) (by simp only [List.getElem?_toArray, List.getElem?_cons_succ, List.getElem?_cons_zero]; rfl) (by kernel_rfl) (by kernel_rfl) (by kernel_rfl) (by exact fun _ _ _ h => h) (Or.inl ⟨by rfl, ?_⟩) (by assumption) ?_
                  rotate_left
                  · (intro w hSw; (try dsimp only at hSw); go_simp; try with_reducible rfl)
                  try simp only [Act.put, List.setIfInBounds_toArray, List.set_cons_zero, List.set_cons_succ]
                  refine wpAnyH_take (i := 19) (oi := _) (v := ?_) (by simp only [List.getElem?_toArray, List.getElem?_cons_succ, List.getElem?_cons_zero]; rfl) (by kernel_rfl) (by kernel_rfl) (by kernel_rfl) (by exact fun _ _ _ h => h) (Or.inl ⟨by rfl, ?_⟩) (by assumption) ?_
                  rotate_left
                  · (intro w hSw; (try dsimp only at hSw); go_simp; try with_reducible rfl)
                  try simp only [Act.put, List.setIfInBounds_toArray, List.set_cons_zero, List.set_cons_succ]
                  refine wpAnyH_take (i := 20) (oi := _) (v := ?_) (by simp only [List.getElem?_toArray, List.getElem?_cons_succ, List.getElem?_cons_zero]; rfl) (by kernel_rfl) (by kernel_rfl) (by kernel_rfl) (by exact fun _ _ _ h => h) (Or.inl ⟨by rfl, ?_⟩) (by assumption) ?_
                  rotate_left
                  · (intro w hSw; (try dsimp only at hSw); go_simp; try with_reducible rfl)
                  try simp only [Act.put, List.setIfInBounds_toArray, List.set_cons_zero, List.set_cons_succ]
                  refine wpAnyH_take (i := 21) (oi := _) (v := ?_) (by simp only [List.getElem?_toArray, List.getElem?_cons_succ, List.getElem?_cons_zero]; rfl) (by kernel_rfl) (by kernel_rfl) (by kernel_rfl) (by exact fun _ _ _ h => h) (Or.inl ⟨by rfl, ?_⟩) (by assumption) ?_
                  rotate_left
                  · (intro w hSw; (try dsimp only at hSw); go_simp; try with_reducible rfl)
                  try simp only [Act.put, List.setIfInBounds_toArray, List.set_cons_zero, List.set_cons_succ]
                  refine wpAnyH_take (i := 22) (oi := _) (v := ?_) (by simp only [List.getElem?_toArray, List.getElem?_cons_succ, List.getElem?_cons_zero]; rfl) (by kernel_rfl) (by kernel_rfl) (by kernel_rfl) (by exact fun _ _ _ h => h) (Or.inl ⟨by rfl, ?_⟩) (by assumption) ?_
                  rotate_left
                  · (intro w hSw; (try dsimp only at hSw); go_simp; try with_reducible rfl)
                  try simp only [Act.put, List.setIfInBounds_toArray, List.set_cons_zero, List.set_cons_succ]
                  refine wpAnyH_take (i := 23) (oi := _) (v := ?_) (by simp only [List.getElem?_toArray, List.getElem?_cons_succ, List.getElem?_cons_zero]; rfl) (by kernel_rfl) (by kernel_rfl) (by kernel_rfl) (by exact fun _ _ _ h => h) (Or.inl ⟨by rfl, ?_⟩) (by assumption) ?_
                  rotate_left
                  · (intro w hSw; (try dsimp only at hSw); go_simp; try with_reducible rfl)
                  try simp only [Act.put, List.setIfInBounds_toArray, List.set_cons_zero, List.set_cons_succ]
                  refine wpAnyH_take (i := 24) (oi := _) (v := ?_) (by simp only [List.getElem?_toArray, List.getElem?_cons_succ, List.getElem?_cons_zero]; rfl) (by kernel_rfl) (by kernel_rfl) (by kernel_rfl) (by exact fun _ _ _ h => h) (Or.inl ⟨by rfl, ?_⟩) (by assumption) ?_
                  rotate_left
                  · (intro w hSw; (try dsimp only at hSw); go_simp; try with_reducible rfl)
                  try simp only [Act.put, List.setIfInBounds_toArray, List.set_cons_zero, List.set_cons_succ]
                  refine wpAnyH_ready (rs := [16]) (by kernel_rfl) (by simp) ?_
                  refine AllReadyH.cons rfl (fun K hK => ?_) AllReadyH.nil
                  go_simp
                  refine (refIs_is x FX.out WJ.out _).mono ?_
                  rintro e w13 ⟨rfl, rfl⟩
                  have K13 := K12
                  go_wp2_with fail
                  refine hK.out _ _ (⟨(CL.out _ K12.out).1, (CL.out _ K12.out).2.1, (CL.out _ K12.out).2.2.1, (CL.out _ K12.out).2.2.2.1, (CL.out _ K12.out).2.2.2.2.1, (CL.out _ K12.out).2.2.2.2.2.1, (CL.out _ K12.out).2.2.2.2.2.2, CM.out _ K12.out⟩) (fun hH2 => ?_)
                  clear hK K hH1
                  try simp only [Act.put, List.setIfInBounds_toArray, List.set_cons_zero, List.set_cons_succ]
                  refine wpAnyH_take (i := 25) (oi := _) (v := ?_) (by simp only [List.getElem?_toArray, List.getElem?_cons_succ, List.getElem?_cons_zero]; rfl) (by kernel_rfl) (by kernel_rfl) (by kernel_rfl) (by exact fun _ _ _ h => h) (Or.inl ⟨by rfl, ?_⟩) (by assumption) ?_
                  rotate_left
                  · (intro w hSw; (try dsimp only at hSw); go_simp; try with_reducible rfl)
                  try simp only [Act.put, List.setIfInBounds_toArray, List.set_cons_zero, List.set_cons_succ]
                  refine wpAnyH_take (i := 26) (oi := _) (v := ?_) (by simp only [List.getElem?_toArray, List.getElem?_cons_succ, List.getElem?_cons_zero]; rfl) (by kernel_rfl) (by kernel_rfl) (by kernel_rfl) (by exact fun _ _ _ h => h) (Or.inl ⟨by rfl, ?_⟩) (by assumption) ?_
                  rotate_left
                  · (intro w hSw; (try dsimp only at hSw); go_simp; try with_reducible rfl)
                  try simp only [Act.put, List.setIfInBounds_toArray, List.set_cons_zero, List.set_cons_succ]
                  refine wpAnyH_done (by kernel_rfl) ?_ _
                  go_wp2_with fail
                  go_roundw
                  case rel => exact ⟨j + 1, by go_num, by omega, Lib.hid K13.out⟩
                  case measure => simp [intOf]; omega
                · have wi : wIs x = true := by rw [WI.out, hk]
                  have WJ := Lib.hid wi
                  have hk0 : (c.1 == 0) = true := by simpa using hk
                  clear wi hk
                  refine wp_region_held_drew (S := fun w' => w'.cell? ⟨b1, 0, none⟩ = some (.pointer (some ⟨p, 0, none⟩)) ∧ w'.cell? ⟨hb, 0, none⟩ = some (.int .i64 3) ∧ w'.cell? ⟨hb, 1, none⟩ = some (.int .i64 z1) ∧ w'.cell? ⟨hb, 2, none⟩ = some (.int .i64 z2) ∧ w'.cell? ⟨hb, 3, none⟩ = some (.int .i64 tp) ∧ w'.cell? ⟨wg, j, none⟩ = some (.int .u64 x) ∧ w'.cell? ⟨hg, j, none⟩ = some (.slice (some ⟨mb, mo, none⟩) m.length xc) ∧ w'.cell? ⟨mb, mo, none⟩ = some (.int .i64 c.1)) (by kernel_rfl) (⟨(CL.out _ K11.out).1, (CL.out _ K11.out).2.1, (CL.out _ K11.out).2.2.1, (CL.out _ K11.out).2.2.2.1, (CL.out _ K11.out).2.2.2.2.1, (CL.out _ K11.out).2.2.2.2.2.1, (CL.out _ K11.out).2.2.2.2.2.2, CM.out _ K11.out.drew⟩) (fun hH0 => ?_)
                  refine wpAnyH_take (i := 0) (oi := _) (v := ?_) (by simp only [List.getElem?_toArray, List.getElem?_cons_succ, List.getElem?_cons_zero]; rfl) (by kernel_rfl) (by kernel_rfl) (by kernel_rfl) (by exact fun _ _ _ h => h) (Or.inl ⟨by rfl, ?_⟩) (by assumption) ?_
                  rotate_left
                  · (intro w hSw; (try dsimp only at hSw); go_simp; try with_reducible rfl)
                  try simp only [Act.put, List.setIfInBounds_toArray, List.set_cons_zero, List.set_cons_succ]
                  refine wpAnyH_take (i := 1) (oi := _) (v := ?_) (by simp only [List.getElem?_toArray, List.getElem?_cons_succ, List.getElem?_cons_zero]; rfl) (by kernel_rfl) (by kernel_rfl) (by kernel_rfl) (by exact fun _ _ _ h => h) (Or.inl ⟨by rfl, ?_⟩) (by assumption) ?_
                  rotate_left
                  · (intro w hSw; (try dsimp only at hSw); go_simp; try with_reducible rfl)
                  try simp only [Act.put, List.setIfInBounds_toArray, List.set_cons_zero, List.set_cons_succ]
                  refine wpAnyH_take (i := 2) (oi := _) (v := ?_) (by simp only [List.getElem?_toArray, List.getElem?_cons_succ, List.getElem?_cons_zero]; rfl) (by kernel_rfl) (by kernel_rfl) (by kernel_rfl) (by exact fun _ _ _ h => h) (Or.inl ⟨by rfl, ?_⟩) (by assumption) ?_
                  rotate_left
                  · (intro w hSw; (try dsimp only at hSw); go_simp; try with_reducible rfl)
                  try simp only [Act.put, List.setIfInBounds_toArray, List.set_cons_zero, List.set_cons_succ]
                  refine wpAnyH_take (i := 3) (oi := _) (v := ?_) (by simp only [List.getElem?_toArray, List.getElem?_cons_succ, List.getElem?_cons_zero]; rfl) (by kernel_rfl) (by kernel_rfl) (by kernel_rfl) (by exact fun _ _ _ h => h) (Or.inl ⟨by rfl, ?_⟩) (by assumption) ?_
                  rotate_left
                  · (intro w hSw; (try dsimp only at hSw); go_simp; try with_reducible rfl)
                  try simp only [Act.put, List.setIfInBounds_toArray, List.set_cons_zero, List.set_cons_succ]
                  refine wpAnyH_take (i := 4) (oi := _) (v := ?_) (by simp only [List.getElem?_toArray, List.getElem?_cons_succ, List.getElem?_cons_zero]; rfl) (by kernel_rfl) (by kernel_rfl) (by kernel_rfl) (by exact fun _ _ _ h => h) (Or.inl ⟨by rfl, ?_⟩) (by assumption) ?_
                  rotate_left
                  · (intro w hSw; (try dsimp only at hSw); go_simp; try with_reducible rfl)
                  try simp only [Act.put, List.setIfInBounds_toArray, List.set_cons_zero, List.set_cons_succ]
                  refine wpAnyH_take (i := 5) (oi := _) (v := ?_) (by simp only [List.getElem?_toArray, List.getElem?_cons_succ, List.getElem?_cons_zero]; rfl) (by kernel_rfl) (by kernel_rfl) (by kernel_rfl) (by exact fun _ _ _ h => h) (Or.inl ⟨by rfl, ?_⟩) (by assumption) ?_
                  rotate_left
                  · (intro w hSw; (try dsimp only at hSw); go_simp; try with_reducible rfl)
                  try simp only [Act.put, List.setIfInBounds_toArray, List.set_cons_zero, List.set_cons_succ]
                  refine wpAnyH_take (i := 6) (oi := _) (v := ?_) (by simp only [List.getElem?_toArray, List.getElem?_cons_succ, List.getElem?_cons_zero]; rfl) (by kernel_rfl) (by kernel_rfl) (by kernel_rfl) (by exact fun _ _ _ h => h) (Or.inl ⟨by rfl, ?_⟩) (by assumption) ?_
                  rotate_left
                  · (intro w hSw; (try dsimp only at hSw); go_simp; try with_reducible rfl)
                  try simp only [Act.put, List.setIfInBounds_toArray, List.set_cons_zero, List.set_cons_succ]
                  refine wpAnyH_take (i := 7) (oi := _) (v := ?_) (by simp only [List.getElem?_toArray, List.getElem?_cons_succ, List.getElem?_cons_zero]; rfl) (by kernel_rfl) (by kernel_rfl) (by kernel_rfl) (by exact fun _ _ _ h => h) (Or.inl ⟨by rfl, ?_⟩) (by assumption) ?_
                  rotate_left
                  · (intro w hSw; (try dsimp only at hSw); go_simp; try with_reducible rfl)
                  try simp only [Act.put, List.setIfInBounds_toArray, List.set_cons_zero, List.set_cons_succ]
                  refine wpAnyH_ready (rs := [8]) (by kernel_rfl) (by simp) ?_
                  refine AllReadyH.cons rfl (fun K hK => ?_) AllReadyH.nil
                  go_simp
                  refine (keepMessage_is (B := true) (M11.out.below (bl_drew (Below.refl _ _))) (HMM.out.below K11.out.drew.wd.below) (by omega) ⟨fun _ => rfl, fun _ => rfl⟩).mono ?_
                  rintro e w12 ⟨rfl, hb12⟩
                  have K12 := Lib.hid (K11.out.drew.on hb12)
                  clear hb12
                  go_wp2_with fail
                  refine hK.out _ _ (⟨(CL.out _ K12.out).1, (CL.out _ K12.out).2.1, (CL.out _ K12.out).2.2.1, (CL.out _ K12.out).2.2.2.1, (CL.out _ K12.out).2.2.2.2.1, (CL.out _ K12.out).2.2.2.2.2.1, (CL.out _ K12.out).2.2.2.2.2.2, CM.out _ K12.out⟩) (fun hH1 => ?_)
                  clear hK K hH0
                  try simp only [Act.put, List.setIfInBounds_toArray, List.set_cons_zero, List.set_cons_succ]
                  refine wpAnyH_take (i := 9) (oi := _) (v := ?_) (by simp only [List.getElem?_toArray, List.getElem?_cons_succ, List.getElem?_cons_zero]; rfl) (by kernel_rfl) (by kernel_rfl) (by kernel_rfl) (by exact fun _ _ _ h => h) (Or.inl ⟨by rfl, ?_⟩) (by assumption) ?_
                  rotate_left
                  · (intro w hSw; (try dsimp only at hSw); go_simp; try with_reducible rfl)
                  try simp only [Act.put, List.setIfInBounds_toArray, List.set_cons_zero, List.set_cons_succ]
                  refine wpAnyH_take (i := 10) (oi := _) (v := ?_) (by simp only [List.getElem?_toArray, List.getElem?_cons_succ, List.getElem?_cons_zero]; rfl) (by kernel_rfl) (by kernel_rfl) (by kernel_rfl) (by exact fun _ _ _ h => h) (Or.inl ⟨by rfl, ?_⟩) (by assumption) ?_
                  rotate_left
                  · (intro w hSw; (try dsimp only at hSw); go_simp; try with_reducible rfl)
                  try simp only [Act.put, List.setIfInBounds_toArray, List.set_cons_zero, List.set_cons_succ]
                  refine wpAnyH_take (i := 11) (oi := _) (v := ?_) (by simp only [List.getElem?_toArray, List.getElem?_cons_succ, List.getElem?_cons_zero]; rfl) (by kernel_rfl) (by kernel_rfl) (by kernel_rfl) (by exact fun _ _ _ h => h) (Or.inl ⟨by rfl, ?_⟩) (by assumption) ?_
                  rotate_left
                  · (intro w hSw; (try dsimp only at hSw); go_simp; try with_reducible rfl)
                  try simp only [Act.put, List.setIfInBounds_toArray, List.set_cons_zero, List.set_cons_succ]
                  refine wpAnyH_take (i := 12) (oi := _) (v := ?_) (by simp only [List.getElem?_toArray, List.getElem?_cons_succ, List.getElem?_cons_zero]; rfl) (by kernel_rfl) (by kernel_rfl) (by kernel_rfl) (by exact fun _ _ _ h => h) (Or.inl ⟨by rfl, ?_⟩) (by assumption) ?_
                  rotate_left
                  · (intro w hSw; (try dsimp only at hSw); go_simp; try with_reducible rfl)
                  try simp only [Act.put, List.setIfInBounds_toArray, List.set_cons_zero, List.set_cons_succ]
                  refine wpAnyH_take (i := 13) (oi := _) (v := ?_) (by simp only [List.getElem?_toArray, List.getElem?_cons_succ, List.getElem?_cons_zero]; rfl) (by kernel_rfl) (by kernel_rfl) (by kernel_rfl) (by exact fun _ _ _ h => h) (Or.inl ⟨by rfl, ?_⟩) (by assumption) ?_
                  rotate_left
                  · (intro w hSw; (try dsimp only at hSw); go_simp; try with_reducible rfl)
                  try simp only [Act.put, List.setIfInBounds_toArray, List.set_cons_zero, List.set_cons_succ]
                  refine wpAnyH_take (i := 14) (oi := _) (v := ?_) (by simp only [List.getElem?_toArray, List.getElem?_cons_succ, List.getElem?_cons_zero]; rfl) (by kernel_rfl) (by kernel_rfl) (by kernel_rfl) (by exact fun _ _ _ h => h) (Or.inl ⟨by rfl, ?_⟩) (by assumption) ?_
                  rotate_left
                  · (intro w hSw; (try dsimp only at hSw); go_simp; try with_reducible rfl)
                  try simp only [Act.put, List.setIfInBounds_toArray, List.set_cons_zero, List.set_cons_succ]
                  refine wpAnyH_take (i := 15) (oi := _) (v := ?_) (by simp only [List.getElem?_toArray, List.getElem?_cons_succ, List.getElem?_cons_zero]; rfl) (by kernel_rfl) (by kernel_rfl) (by kernel_rfl) (by exact fun _ _ _ h => h) (Or.inl ⟨by rfl, ?_⟩) (by assumption) ?_
                  rotate_left
                  · (intro w hSw; (try dsimp only at hSw); go_simp; try with_reducible rfl)
                  try simp only [Act.put, List.setIfInBounds_toArray, List.set_cons_zero, List.set_cons_succ]
                  refine wpAnyH_take (i := 17) (oi := _) (v := ?_) (by simp only [List.getElem?_toArray, List.getElem?_cons_succ, List.getElem?_cons_zero]; rfl) (by kernel_rfl) (by kernel_rfl) (by kernel_rfl) (by exact fun _ _ _ h => h) (Or.inl ⟨by rfl, ?_⟩) (by assumption) ?_
                  rotate_left
                  · (intro w hSw; (try dsimp only at hSw); go_simp; try with_reducible rfl)
                  try simp only [Act.put, List.setIfInBounds_toArray, List.set_cons_zero, List.set_cons_succ]
                  refine wpAnyH_take (i := 18) (oi := _) (v := ?_) (by simp only [List.getElem?_toArray, List.getElem?_cons_succ, List.getElem?_cons_zero]; rfl) (by kernel_rfl) (by kernel_rfl) (by kernel_rfl) (by exact fun _ _ _ h => h) (Or.inl ⟨by rfl, ?_⟩) (by assumption) ?_
                  rotate_left
                  · (intro w hSw; (try dsimp only at hSw); go_simp; try with_reducible rfl)
                  try simp only [Act.put, List.setIfInBounds_toArray, List.set_cons_zero, List.set_cons_succ]
                  refine wpAnyH_take (i := 19) (oi := _) (v := ?_) (by simp only [List.getElem?_toArray, List.getElem?_cons_succ, List.getElem?_cons_zero]; rfl) (by kernel_rfl) (by kernel_rfl) (by kernel_rfl) (by exact fun _ _ _ h => h) (Or.inl ⟨by rfl, ?_⟩) (by assumption) ?_
                  rotate_left
                  · (intro w hSw; (try dsimp only at hSw); go_simp; try with_reducible rfl)
                  try simp only [Act.put, List.setIfInBounds_toArray, List.set_cons_zero, List.set_cons_succ]
                  refine wpAnyH_take (i := 20) (oi := _) (v := ?_) (by simp only [List.getElem?_toArray, List.getElem?_cons_succ, List.getElem?_cons_zero]; rfl) (by kernel_rfl) (by kernel_rfl) (by kernel_rfl) (by exact fun _ _ _ h => h) (Or.inl ⟨by rfl, ?_⟩) (by assumption) ?_
                  rotate_left
                  · (intro w hSw; (try dsimp only at hSw); go_simp; try with_reducible rfl)
                  try simp only [Act.put, List.setIfInBounds_toArray, List.set_cons_zero, List.set_cons_succ]
                  refine wpAnyH_take (i := 21) (oi := _) (v := ?_) (by simp only [List.getElem?_toArray, List.getElem?_cons_succ, List.getElem?_cons_zero]; rfl) (by kernel_rfl) (by kernel_rfl) (by kernel_rfl) (by exact fun _ _ _ h => h) (Or.inl ⟨by rfl, ?_⟩) (by assumption) ?_
                  rotate_left
                  · (intro w hSw; (try dsimp only at hSw); go_simp; try with_reducible rfl)
                  try simp only [Act.put, List.setIfInBounds_toArray, List.set_cons_zero, List.set_cons_succ]
                  refine wpAnyH_take (i := 22) (oi := _) (v := ?_) (by simp only [List.getElem?_toArray, List.getElem?_cons_succ, List.getElem?_cons_zero]; rfl) (by kernel_rfl) (by kernel_rfl) (by kernel_rfl) (by exact fun _ _ _ h => h) (Or.inl ⟨by rfl, ?_⟩) (by assumption) ?_
                  rotate_left
                  · (intro w hSw; (try dsimp only at hSw); go_simp; try with_reducible rfl)
                  try simp only [Act.put, List.setIfInBounds_toArray, List.set_cons_zero, List.set_cons_succ]
                  refine wpAnyH_take (i := 23) (oi := _) (v := ?_) (by simp only [List.getElem?_toArray, List.getElem?_cons_succ, List.getElem?_cons_zero]; rfl) (by kernel_rfl) (by kernel_rfl) (by kernel_rfl) (by exact fun _ _ _ h => h) (Or.inl ⟨by rfl, ?_⟩) (by assumption) ?_
                  rotate_left
                  · (intro w hSw; (try dsimp only at hSw); go_simp; try with_reducible rfl)
                  try simp only [Act.put, List.setIfInBounds_toArray, List.set_cons_zero, List.set_cons_succ]
                  refine wpAnyH_take (i := 24) (oi := _) (v := ?_) (by simp only [List.getElem?_toArray, List.getElem?_cons_succ, List.getElem?_cons_zero]; rfl) (by kernel_rfl) (by kernel_rfl) (by kernel_rfl) (by exact fun _ _ _ h => h) (Or.inl ⟨by rfl, ?_⟩) (by assumption) ?_
                  rotate_left
                  · (intro w hSw; (try dsimp only at hSw); go_simp; try with_reducible rfl)
                  try simp only [Act.put, List.setIfInBounds_toArray, List.set_cons_zero, List.set_cons_succ]
                  refine wpAnyH_ready (rs := [16]) (by kernel_rfl) (by simp) ?_
                  refine AllReadyH.cons rfl (fun K hK => ?_) AllReadyH.nil
                  go_simp
                  refine (refIs_is x FX.out WJ.out _).mono ?_
                  rintro e w13 ⟨rfl, rfl⟩
                  have K13 := K12
                  go_wp2_with fail
                  refine hK.out _ _ (⟨(CL.out _ K12.out).1, (CL.out _ K12.out).2.1, (CL.out _ K12.out).2.2.1, (CL.out _ K12.out).2.2.2.1, (CL.out _ K12.out).2.2.2.2.1, (CL.out _ K12.out).2.2.2.2.2.1, (CL.out _ K12.out).2.2.2.2.2.2, CM.out _ K12.out⟩) (fun hH2 => ?_)
                  clear hK K hH1
                  try simp only [Act.put, List.setIfInBounds_toArray, List.set_cons_zero, List.set_cons_succ]
                  refine wpAnyH_take (i := 25) (oi := _) (v := ?_) (by simp only [List.getElem?_toArray, List.getElem?_cons_succ, List.getElem?_cons_zero]; rfl) (by kernel_rfl) (by kernel_rfl) (by kernel_rfl) (by exact fun _ _ _ h => h) (Or.inl ⟨by rfl, ?_⟩) (by assumption) ?_
                  rotate_left
                  · (intro w hSw; (try dsimp only at hSw); go_simp; try with_reducible rfl)
                  try simp only [Act.put, List.setIfInBounds_toArray, List.set_cons_zero, List.set_cons_succ]
                  refine wpAnyH_take (i := 26) (oi := _) (v := ?_) (by simp only [List.getElem?_toArray, List.getElem?_cons_succ, List.getElem?_cons_zero]; rfl) (by kernel_rfl) (by kernel_rfl) (by kernel_rfl) (by exact fun _ _ _ h => h) (Or.inl ⟨by rfl, ?_⟩) (by assumption) ?_
                  rotate_left
                  · (intro w hSw; (try dsimp only at hSw); go_simp; try with_reducible rfl)
                  try simp only [Act.put, List.setIfInBounds_toArray, List.set_cons_zero, List.set_cons_succ]
                  refine wpAnyH_done (by kernel_rfl) ?_ _
                  go_wp2_with fail
                  go_roundw
                  case rel => exact ⟨j + 1, by go_num, by omega, Lib.hid K13.out⟩
                  case measure => simp [intOf]; omega
              · skip
                have c0 : wr.cell? ⟨b1, 0, none⟩ = some (.pointer (some ⟨p, 0, none⟩)) := (HJ.out.wd.two.cell 0).trans rfl
                go_wp2_with fail
                clear c0
                refine (words_h HJ.out.wd.held 3).mono ?_
                rintro e w8 ⟨av, rfl, hao, hb8⟩
                obtain ⟨aa, ac, rfl⟩ := owns_slice hao
                have K8 := Lib.hid (HJ.out.on hb8)
                have LA := Lib.hid (show (A.region 3).length = n0 by rw [objs_len HK.out.wd.held.ok HO.out, LN.out])
                have SA := Lib.hid (semi_same K7.out.held.ok HK.out.wd.held.ok O0.out HO.out)
                have A8 := Lib.hid (show rdAt (fun _ => False) w8 (.slice aa n0 ac) n0 (wordsL (A.region 3)) by have := rdAt.of_owns (S := fun _ => False) hao (fun _ _ t => t); rw [LA.out] at this; exact this)
                have AC := Lib.hid (show n0 ≤ ac by
                  rcases owns_parts hao with ⟨e, e2, _⟩ | ⟨g, cap, rest, e, _, _, _, _, h3, _⟩
                  · have := LA.out; omega
                  · cases e; have := LA.out; omega)
                have D8 := Lib.hid (D7.out.upon K8.out.up (fun _ _ t => t))
                have R8 := Lib.hid (R7.out.upon K8.out.up (by
                  rintro (h | h)
                  · exact HNF.out h
                  · omega))
                clear hao hb8
                have hth8 : A.there 3 = true := objs_there HK.out.wd.held.ok HO.out
                have lna := LA.out
                rw [lna]
                clear lna
                obtain ⟨bb, bo, hba⟩ := rd_addr D8.out (by have := LN.out; have := NM.out; omega)
                obtain ⟨ab, ao, haa⟩ := rd_addr A8.out (by have := LN.out; have := NM.out; omega)
                subst hba haa
                obtain ⟨fr, hfr⟩ : ∃ fr : Nat, z2 * z1 = fr := ⟨(z2 * z1).toNat, by have := NM.out; omega⟩
                obtain ⟨k3, hk3⟩ : ∃ k3 : Nat, z3 = k3 := ⟨z3.toNat, by have := NM.out; omega⟩
                have hnm := NM.out
                have hln := LN.out
                have hmul : wrap64 (z2 * z1) = (fr : Int) := by rw [hfr]; unfold wrap64; omega
                obtain ⟨e3, he3⟩ : ∃ e3 : Nat, e3 = fr + k3 := ⟨_, rfl⟩
                have hadd : wrap64 ((fr : Int) + z3) = (e3 : Int) := by unfold wrap64; omega
                have hadd' : IntKind.i64.wrap ((fr : Int) + z3) = (e3 : Int) := by rw [IntKind.wrap_i64]; omega
                have hen : e3 ≤ n0 := by omega
                have hac := AC.out
                have hbc := BC7.out
                obtain ⟨X1, hX1, rs1⟩ := run_win bb bo (n := n0) (c := bc) (k := fr) (m := e3) (by omega) (by omega)
                obtain ⟨X2, hX2, rs2⟩ := run_win ab ao (n := n0) (c := ac) (k := fr) (m := e3) (by omega) (by omega)
                rw [show e3 - fr = k3 by omega] at rs1 rs2
                have KW := Lib.hid (fun (W' : World) (hb : Below w8.heap.size w8 W') => show Calls Tryz.prog 17 #[.slice X1 k3 (bc - fr), .slice X2 k3 (ac - fr)] W' _ from
                  keepWords_is (xs := ((A0.region 3).drop fr).take k3) (q := k3) (by rw [List.length_take, List.length_drop, N0.out]; omega)
                    (win_reads (D8.out.below hb) N0.out (k := fr) (m := e3) (by omega) (by omega) (by omega) hX1 (by rw [show e3 - fr = k3 by omega]) (by rw [List.length_take, List.length_drop, N0.out]; omega) _)
                    (win_reads (A8.out.below hb) LA.out (k := fr) (m := e3) (by omega) (by omega) (by omega) hX2 (by have h := SA.out; rw [hfr, hk3] at h; simpa [show e3 - fr = k3 by omega] using h) (by rw [List.length_take, List.length_drop, N0.out]; omega) _)
                    (by omega))
                have hgt : ¬ ((n0 : Int) < (e3 : Int)) := by omega
                have hfn : ¬ ((fr : Int) < 0) := by omega
                clear hX1 hX2 hen hac hbc hnm hln hk3 hfr he3
                obtain ⟨d0, d1, d2, d3, d4⟩ := cells5 R8.out
                have RS := Lib.hid (fun (W' : World) (hb : Below w8.heap.size w8 W') => show W'.cell? ⟨w.heap.size, 4, none⟩ = some (.int .i64 z3) from ((R8.out.below hb R8.out.lt).cell 4).trans rfl)
                go_wp2_with fail
                clear d0 d1 d2 d3
                refine wp_region_held_drew (S := fun w' => w'.cell? ⟨w.heap.size, 4, none⟩ = some (.int .i64 z3)) (by kernel_rfl) (RS.out _ (bl_drew (Below.refl _ _))) (fun hH0 => ?_)
                refine wpAnyH_take (i := 0) (oi := _) (v := ?_) (by simp only [List.getElem?_toArray, List.getElem?_cons_succ, List.getElem?_cons_zero]; rfl) (by kernel_rfl) (by kernel_rfl) (by kernel_rfl) (by exact fun _ _ _ h => h) (Or.inl ⟨by rfl, ?_⟩) (by assumption) ?_
                rotate_left
                · (intro w hSw; (try dsimp only at hSw); go_simp; try with_reducible rfl)
                try simp only [Act.put, List.setIfInBounds_toArray, List.set_cons_zero, List.set_cons_succ]
                refine wpAnyH_take (i := 1) (oi := _) (v := ?_) (by simp only [List.getElem?_toArray, List.getElem?_cons_succ, List.getElem?_cons_zero]; rfl) (by kernel_rfl) (by kernel_rfl) (by kernel_rfl) (by exact fun _ _ _ h => h) (Or.inl ⟨by rfl, ?_⟩) (by assumption) ?_
                rotate_left
                · (intro w hSw; (try dsimp only at hSw); go_simp; try with_reducible rfl)
                try simp only [Act.put, List.setIfInBounds_toArray, List.set_cons_zero, List.set_cons_succ]
                refine wpAnyH_take (i := 2) (oi := _) (v := ?_) (by simp only [List.getElem?_toArray, List.getElem?_cons_succ, List.getElem?_cons_zero]; rfl) (by kernel_rfl) (by kernel_rfl) (by kernel_rfl) (by exact fun _ _ _ h => h) (Or.inl ⟨by rfl, ?_⟩) (by assumption) ?_
                rotate_left
                · (intro w hSw; (try dsimp only at hSw); go_simp; try with_reducible rfl)
                try simp only [Act.put, List.setIfInBounds_toArray, List.set_cons_zero, List.set_cons_succ]
                refine wpAnyH_take (i := 3) (oi := _) (v := ?_) (by simp only [List.getElem?_toArray, List.getElem?_cons_succ, List.getElem?_cons_zero]; rfl) (by kernel_rfl) (by kernel_rfl) (by kernel_rfl) (by exact fun _ _ _ h => h) (Or.inl ⟨by rfl, ?_⟩) (by assumption) ?_
                rotate_left
                · (intro w hSw; (try dsimp only at hSw); go_simp; try with_reducible rfl)
                try simp only [Act.put, List.setIfInBounds_toArray, List.set_cons_zero, List.set_cons_succ]
                refine wpAnyH_take (i := 4) (oi := _) (v := ?_) (by simp only [List.getElem?_toArray, List.getElem?_cons_succ, List.getElem?_cons_zero]; rfl) (by kernel_rfl) (by kernel_rfl) (by kernel_rfl) (by exact fun _ _ _ h => h) (Or.inl ⟨by rfl, ?_⟩) (by assumption) ?_
                rotate_left
                · (intro w hSw; (try dsimp only at hSw); go_simp; try with_reducible rfl)
                try simp only [Act.put, List.setIfInBounds_toArray, List.set_cons_zero, List.set_cons_succ]
                refine wpAnyH_take (i := 5) (oi := _) (v := ?_) (by simp only [List.getElem?_toArray, List.getElem?_cons_succ, List.getElem?_cons_zero]; rfl) (by kernel_rfl) (by kernel_rfl) (by kernel_rfl) (by exact fun _ _ _ h => h) (Or.inl ⟨by rfl, ?_⟩) (by assumption) ?_
                rotate_left
                · (intro w hSw; (try dsimp only at hSw); go_simp; try with_reducible rfl)
                try simp only [Act.put, List.setIfInBounds_toArray, List.set_cons_zero, List.set_cons_succ]
                refine wpAnyH_take (i := 6) (oi := _) (v := ?_) (by simp only [List.getElem?_toArray, List.getElem?_cons_succ, List.getElem?_cons_zero]; rfl) (by kernel_rfl) (by kernel_rfl) (by kernel_rfl) (by exact fun _ _ _ h => h) (Or.inl ⟨by rfl, ?_⟩) (by assumption) ?_
                rotate_left
                · (intro w hSw; (try dsimp only at hSw); go_simp; try with_reducible rfl)
                try simp only [Act.put, List.setIfInBounds_toArray, List.set_cons_zero, List.set_cons_succ]
                refine wpAnyH_take (i := 7) (oi := _) (v := ?_) (by simp only [List.getElem?_toArray, List.getElem?_cons_succ, List.getElem?_cons_zero]; rfl) (by kernel_rfl) (by kernel_rfl) (by kernel_rfl) (by exact fun _ _ _ h => h) (Or.inl ⟨by rfl, ?_⟩) (by assumption) ?_
                rotate_left
                · (intro w hSw; (try dsimp only at hSw); go_simp; try with_reducible rfl)
                try simp only [Act.put, List.setIfInBounds_toArray, List.set_cons_zero, List.set_cons_succ]
                refine wpAnyH_take (i := 8) (oi := _) (v := ?_) (by simp only [List.getElem?_toArray, List.getElem?_cons_succ, List.getElem?_cons_zero]; rfl) (by kernel_rfl) (by kernel_rfl) (by kernel_rfl) (by exact fun _ _ _ h => h) (Or.inl ⟨by rfl, ?_⟩) (by assumption) ?_
                rotate_left
                · (intro w hSw; (try dsimp only at hSw); go_simp; try with_reducible rfl)
                try simp only [Act.put, List.setIfInBounds_toArray, List.set_cons_zero, List.set_cons_succ]
                refine wpAnyH_take (i := 9) (oi := _) (v := ?_) (by simp only [List.getElem?_toArray, List.getElem?_cons_succ, List.getElem?_cons_zero]; rfl) (by kernel_rfl) (by kernel_rfl) (by kernel_rfl) (by exact fun _ _ _ h => h) (Or.inl ⟨by rfl, ?_⟩) (by assumption) ?_
                rotate_left
                · (intro w hSw; (try dsimp only at hSw); go_simp; try with_reducible rfl)
                try simp only [Act.put, List.setIfInBounds_toArray, List.set_cons_zero, List.set_cons_succ]
                refine wpAnyH_take (i := 10) (oi := _) (v := ?_) (by simp only [List.getElem?_toArray, List.getElem?_cons_succ, List.getElem?_cons_zero]; rfl) (by kernel_rfl) (by kernel_rfl) (by kernel_rfl) (by exact fun _ _ _ h => h) (Or.inl ⟨by rfl, ?_⟩) (by assumption) ?_
                rotate_left
                · (intro w hSw; (try dsimp only at hSw); go_simp; try with_reducible rfl)
                try simp only [Act.put, List.setIfInBounds_toArray, List.set_cons_zero, List.set_cons_succ]
                refine wpAnyH_take (i := 11) (oi := _) (v := ?_) (by simp only [List.getElem?_toArray, List.getElem?_cons_succ, List.getElem?_cons_zero]; rfl) (by kernel_rfl) (by kernel_rfl) (by kernel_rfl) (by exact fun _ _ _ h => h) (Or.inl ⟨by rfl, ?_⟩) (by assumption) ?_
                rotate_left
                · (intro w hSw; (try dsimp only at hSw); go_simp; try with_reducible rfl)
                try simp only [Act.put, List.setIfInBounds_toArray, List.set_cons_zero, List.set_cons_succ]
                refine wpAnyH_take (i := 12) (oi := _) (v := ?_) (by simp only [List.getElem?_toArray, List.getElem?_cons_succ, List.getElem?_cons_zero]; rfl) (by kernel_rfl) (by kernel_rfl) (by kernel_rfl) (by exact fun _ _ _ h => h) (Or.inl ⟨by rfl, ?_⟩) (by assumption) ?_
                rotate_left
                · (intro w hSw; (try dsimp only at hSw); go_simp; try with_reducible rfl)
                try simp only [Act.put, List.setIfInBounds_toArray, List.set_cons_zero, List.set_cons_succ]
                refine wpAnyH_take (i := 13) (oi := _) (v := ?_) (by simp only [List.getElem?_toArray, List.getElem?_cons_succ, List.getElem?_cons_zero]; rfl) (by kernel_rfl) (by kernel_rfl) (by kernel_rfl) (by exact fun _ _ _ h => h) (Or.inl ⟨by rfl, ?_⟩) (by assumption) ?_
                rotate_left
                · (intro w hSw; (try dsimp only at hSw); go_simp; try with_reducible rfl)
                try simp only [Act.put, List.setIfInBounds_toArray, List.set_cons_zero, List.set_cons_succ]
                refine wpAnyH_take (i := 14) (oi := _) (v := ?_) (by simp only [List.getElem?_toArray, List.getElem?_cons_succ, List.getElem?_cons_zero]; rfl) (by kernel_rfl) (by kernel_rfl) (by kernel_rfl) (by exact fun _ _ _ h => h) (Or.inl ⟨by rfl, ?_⟩) (by assumption) ?_
                rotate_left
                · (intro w hSw; (try dsimp only at hSw); go_simp; try with_reducible rfl)
                try simp only [Act.put, List.setIfInBounds_toArray, List.set_cons_zero, List.set_cons_succ]
                refine wpAnyH_take (i := 15) (oi := _) (v := ?_) (by simp only [List.getElem?_toArray, List.getElem?_cons_succ, List.getElem?_cons_zero]; rfl) (by kernel_rfl) (by kernel_rfl) (by kernel_rfl) (by exact fun _ _ _ h => h) (Or.inl ⟨by rfl, ?_⟩) (by assumption) ?_
                rotate_left
                · (intro w hSw; (try dsimp only at hSw); go_simp; try with_reducible rfl)
                try simp only [Act.put, List.setIfInBounds_toArray, List.set_cons_zero, List.set_cons_succ]
                refine wpAnyH_ready (rs := [16]) (by kernel_rfl) (by simp) ?_
                refine AllReadyH.cons rfl (fun K hK => ?_) AllReadyH.nil
                go_simp
                refine (KW.out _ (bl_drew (Below.refl _ _))).mono ?_
                rintro e w17 ⟨rfl, hb17⟩
                have D17 := Lib.hid (bl_call (bl_drew (Below.refl w8.heap.size w8)) hb17)
                clear hb17
                go_wp2_with fail
                refine hK.out _ _ (RS.out _ D17.out) (fun hH1 => ?_)
                clear hK K hH0
                try simp only [Act.put, List.setIfInBounds_toArray, List.set_cons_zero, List.set_cons_succ]
                refine wpAnyH_take (i := 17) (oi := _) (v := ?_) (by simp only [List.getElem?_toArray, List.getElem?_cons_succ, List.getElem?_cons_zero]; rfl) (by kernel_rfl) (by kernel_rfl) (by kernel_rfl) (by exact fun _ _ _ h => h) (Or.inl ⟨by rfl, ?_⟩) (by assumption) ?_
                rotate_left
                · (intro w hSw; (try dsimp only at hSw); go_simp; try with_reducible rfl)
                try simp only [Act.put, List.setIfInBounds_toArray, List.set_cons_zero, List.set_cons_succ]
                refine wpAnyH_ready (rs := [18]) (by kernel_rfl) (by simp) ?_
                refine AllReadyH.cons rfl (fun K hK => ?_) AllReadyH.nil
                go_simp
                refine (dwakes_any _ (HT.out.below (bl_call K8.out.wd.below D17.out))).mono ?_
                rintro e w18 ⟨rfl, hb18⟩
                have D18 := Lib.hid (bl_call D17.out hb18)
                clear hb18
                go_wp2_with fail
                refine hK.out _ _ (RS.out _ D18.out) (fun hH2 => ?_)
                clear hK K hH1
                try simp only [Act.put, List.setIfInBounds_toArray, List.set_cons_zero, List.set_cons_succ]
                refine wpAnyH_take (i := 19) (oi := _) (v := ?_) (by simp only [List.getElem?_toArray, List.getElem?_cons_succ, List.getElem?_cons_zero]; rfl) (by kernel_rfl) (by kernel_rfl) (by kernel_rfl) (by exact fun _ _ _ h => h) (Or.inl ⟨by rfl, ?_⟩) (by assumption) ?_
                rotate_left
                · (intro w hSw; (try dsimp only at hSw); go_simp; try with_reducible rfl)
                try simp only [Act.put, List.setIfInBounds_toArray, List.set_cons_zero, List.set_cons_succ]
                refine wpAnyH_take (i := 20) (oi := _) (v := ?_) (by simp only [List.getElem?_toArray, List.getElem?_cons_succ, List.getElem?_cons_zero]; rfl) (by kernel_rfl) (by kernel_rfl) (by kernel_rfl) (by exact fun _ _ _ h => h) (Or.inl ⟨by rfl, ?_⟩) (by assumption) ?_
                rotate_left
                · (intro w hSw; (try dsimp only at hSw); go_simp; try with_reducible rfl)
                try simp only [Act.put, List.setIfInBounds_toArray, List.set_cons_zero, List.set_cons_succ]
                refine wpAnyH_done (by kernel_rfl) ?_ _
                go_wp2_with fail
                go_ret
                exact ⟨rfl, bl_call K8.out.wd.below D18.out⟩

theorem contract (H : Type) (enc : TypeId × Value → H) (W : World) (base : Nat) (args : Array Value) (ds gs : List (DataW H)) (before : List MemPlace)
    (hval0 : ∀ (j : Nat) t v, Tryz.f3.params[j]? = some t → args[j]? = some v → Value.okWide Tryz.prog W .any base t v)
    (hW : DataW.Whole enc Tryz.prog Tryz.f3.params.toList Rows.dataBackSpec.vars false W args.toList ds gs before)
    (T : OpTab W)
    (hz : (DataW.weightsEach Tryz.prog (Tryz.f3.params.toList ++ Rows.dataBackSpec.plain.varTypes Tryz.prog) (ds ++ gs)).all (· ≤ reachBytes) = true) :
    Calls Tryz.prog 3 args W fun e W' => ∃ v, e = .returned v ∧ Rows.dataBackSpec.post enc Tryz.prog Tryz.f3 false true false false W args v W' := by
  have hW' := hW
  have hval := hval0
  obtain ⟨p, q, hA0, hV, rfl, hfz, hnd⟩ := hW
  have hA : DataW.TrodAll enc Tryz.prog W 0 (fun _ => true) true Tryz.f3.params.toList args.toList ds p := hA0
  rw [Tryz.params3] at hA hval
  obtain ⟨rfl, rfl⟩ := trodVars_none hV
  have wb : ∀ (j : Nat) (t : TypeId) (d : DataW H), Tryz.f3.params[j]? = some t → ds[j]? = some d → WB Tryz.prog t d := fun j t d ht hd => wb_of hz (by simpa using ht) hd
  rw [Tryz.params3] at wb
  obtain ⟨v0, vs0, d0, ds0, p0, q0, hargs, rfl, rfl, h0, r0⟩ := trodAll_cons hA
  obtain ⟨v1, vs1, d1, ds1, p1, q1, rfl, rfl, rfl, h1, r1⟩ := trodAll_cons r0
  obtain ⟨rfl, rfl, rfl⟩ := trodAll_nil r1
  obtain rfl : args = #[v0, v1] := by cases args; simp_all
  obtain ⟨f0_0, f0_1, j0_0, j0_1, j0_2, j0_3, hs0, hh0, ho0, hc0, ht0, u0_0, u0_1, u0_2, u0_3⟩ := under_raw
  obtain ⟨sa0, sc0, xs0, z0_0, z0_1, z0_2, z0_3, rfl, hr0, hx0, hm0, _, _, _, _⟩ := open_raw (th := 24) hs0 hh0 ho0 hc0 (by kernel_rfl) (by rw [ht0]; exact Tryz.underlying22) Tryz.underlying42 (by kernel_rfl) u0_0 u0_1 u0_2 u0_3 (hval 0 26 v0 rfl rfl) h0
  obtain ⟨sa1, sc1, l1, rfl, hc1, hr1, hl1, hm1⟩ := open_msgs (wb 1 _ _ rfl rfl) (hval 1 27 v1 rfl rfl) h1
  refine (walk sa0 sc0 xs0 z0_0 z0_1 z0_2 z0_3 sa1 sc1 l1 W hr0 hx0 hm0 hc1 hr1 hl1 hm1 T).mono fun e W' ⟨he, hb⟩ => ?_
  subst he
  exact ⟨_, rfl, law_post laidOut (by kernel_rfl) rfl (by kernel_rfl) Tryz.underlying4 hW' rfl rfl rfl hb⟩

theorem door_met (os : Os) (args : Array Value) : laidMetH Tryz.prog Rows.dataBackRow.laid ((World.doorLaid Tryz.prog 200 os).forCall (fun _ _ => 0) ⟨#[], args, []⟩).memory :=
  laidMetH_of_parts3 (fuel := 8) (laidMet_of_run' 8 (by kernel_rfl) (by kernel_rfl)) (by kernel_rfl) (by kernel_rfl)

set_option maxRecDepth 100000 in
theorem lifted (os : Os) (started : os.Started) (H : Type) (enc : TypeId × Value → H) :
    ReturnsInHanded {} Tryz.checked os 3 .any (fun w args => (Rows.dataBackSpec.pre enc Tryz.prog Tryz.f3 [] false w args ∧ laidMetH Tryz.prog Rows.dataBackRow.laid w) ∧ sizedMet enc Tryz.prog Tryz.f3 (OpenSpec.ofChange Rows.dataBackSpec) false w args)
      (Rows.dataBackSpec.post enc Tryz.prog Tryz.f3 false true false false) := by
  refine returnsInHanded_of_change_and (C := Tryz.checked) (X := fun w _ => laidMetH Tryz.prog Rows.dataBackRow.laid w) (fun _ _ _ hh h => h.of_heap hh) own started (by kernel_rfl) Tryz.func3
    (ChangeSpec.witness_shaped (enc := enc) (C := Tryz.checked) (os := os) (X := fun w _ => laidMetH Tryz.prog Rows.dataBackRow.laid w) false (World.doorLaid Tryz.prog 200 os) #[.agg #[.slice none 0 0, .int .i64 0, .int .i64 0, .int .i64 0, .int .i64 0], .slice none 0 0] 8 rfl (World.shaped_of_RefB (by kernel_rfl) (by kernel_rfl)) (by kernel_rfl) (by kernel_rfl) (by kernel_rfl) (door_met os _)) ?_
  intro W base args ds gs before hval hW _ hz hL _
  exact contract H enc W base args ds gs before hval hW (optab_of (laid_lies (by kernel_rfl) hL _ _ (List.Mem.head _)) (laid_lies (by kernel_rfl) hL _ _ (List.Mem.tail _ (List.Mem.head _))) (laid_lies (by kernel_rfl) hL _ _ (List.Mem.tail _ (List.Mem.tail _ (List.Mem.head _))))) hz

theorem over : Rows.dataBackRow.holds Tryz.pinned (OpenSpec.ofChange Rows.dataBackSpec) :=
  OpenClaim.holds_of_wide 3 Tryz.f3 rfl rfl rfl rfl rfl rfl rfl ⟨rfl, rfl, rfl, rfl, rfl⟩ rfl rfl rfl rfl rfl (by kernel_rfl) Tryz.func3 (by kernel_rfl)
    (of_decide_eq_true (by kernel_rfl)) (by unfold Func.isWrapper; first | (rw [if_pos (by decide +kernel)]; kernel_rfl) | (rw [if_neg (by decide +kernel)]; exact ⟨rfl, rfl⟩))
    (fun os started H enc _ => lifted os started H enc)

theorem proved : Rows.DataBackCardSaid :=
  Claim7.holds_tied_plain_at .later [] [.data, .data, .data] true _ false
    over (fun _ h => by cases h) (by kernel_rfl) (fun _ h => by cases h) dataBack_row_tie rfl ⟨rfl, rfl⟩ (by kernel_rfl) rfl
    (fun f fn hf hfn => by
      obtain rfl : f = 3 := Option.some.inj ((show Tryz.prog.funcNamed "stockpot/stockpotlaw10.DataBack" = some 3 by kernel_rfl).symm.trans hf) |>.symm
      obtain rfl : fn = Tryz.f3 := (Option.some.inj (Tryz.func3.symm.trans hfn)).symm
      exact ⟨by kernel_rfl, fun j t ht => by
        have hall : (Tryz.f3.params.toList.all fun u => !Tryz.prog.wantsStandIn u) = true := by kernel_rfl
        exact (show Tryz.prog.wantsStandIn t = false by simpa using List.all_eq_true.1 hall t (by simpa using Array.mem_of_getElem? ht))⟩)
    (by kernel_rfl)
#print axioms proved
end Go.Proofs.YtnjpjhlodamanaaGreatDoor.dataBack
