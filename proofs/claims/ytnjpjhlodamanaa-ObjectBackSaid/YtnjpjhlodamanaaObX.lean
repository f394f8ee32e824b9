/-
  An object is put ('Put'): an object that may be.
  Conditions: as each states.
-/
import Derived.Test.YtnjpjhlodamanaaObV
import Derived.Deep.DeepCutAuto
import Derived.Deep.CutBlock
import Derived.Deep.RegionHeld3
import Derived.StillTailTactics
namespace Go.Proofs.Ytnjpjhlodamanaa
open Go.ChangeShapes Go.WideShapes Go.ChangeAt Go.RowKit
set_option linter.unusedVariables false
set_option linter.unusedSimpArgs false
set_option maxRecDepth 100000

/-- What 'Put' tells. -/
def PutT (A : Ar) (base half space top : Int) (o : Ob) (w : World) (p : Nat) (F : Nat → Prop) (e : Ending) (w' : World) : Prop :=
  Step F F w w' ∧ ((A.putOk base half space top o = true ∧ e = .returned (.tuple #[heapV base half space (top + (o.words : Int)), .int .u64 (wPlace (space * half + top)), .bool true]) ∧ Held w' p F (A.puts base (space * half + top) o.lay)) ∨
    (A.putOk base half space top o = false ∧ e = .returned zeroPut ∧ Held w' p F A))

/-- What 'lay' hands over. -/
def Body (w0 : World) (F : Nat → Prop) (body : List Int) (v : Value) (w : World) : Prop := ∃ ab cb, v = .slice ab body.length cb ∧ ReadsOff w F ab body ∧ Below w0.heap.size w0 w

theorem fitW_wf {x : Int} (h : fitW x) : (Lit.int .u64 x).wf = true := by
  obtain ⟨h1, h2⟩ := h
  have : IntKind.u64.wrap x = x := by rw [IntKind.wrap_u64]; omega
  rw [← this]
  exact wf_wrap _ _

theorem headR_len {k t : Int} {nf nt : Nat} (h : headR k t nf nt = true) : nf ≤ 400 ∧ nt ≤ 400 ∧ sizeH k nf nt ≤ 400 := by
  unfold headR hasH sizeH mayH at h
  unfold sizeH
  by_cases hk : k = 2
  · simp only [hk, if_true, Bool.and_eq_true, decide_eq_true_eq] at h ⊢
    omega
  · simp only [hk, if_false, Bool.and_eq_true, decide_eq_true_eq] at h ⊢
    omega
theorem owns_readsOff {w : World} {B : Nat} {F : Nat → Prop} {a : Option Addr} {n c : Nat} {xs : List Int} (h : w.ownsRow B 39 1 (.slice a n c) n (wordsL xs)) (hF : ∀ k, F k → k < B) : ReadsOff w F a xs := by
  rcases owns_parts h with ⟨h0, h1, h2⟩ | ⟨g, cap, rest, h0, hg, hr, _⟩
  · intro j u hj
    rw [h2] at hj
    cases hj
  · cases h0
    intro j u hj
    refine ⟨g, 0, rfl, fun hf => by have := hF g hf; omega, ?_⟩
    rw [hr.cell, Nat.zero_add, List.getElem?_append_left (List.getElem?_eq_some_iff.1 hj).1]
    exact hj

set_option maxHeartbeats 16000000 in
theorem put_good {w : World} {p : Nat} {F : Nat → Prop} {A : Ar} (hA : Held w p F A) (base half space top k t : Int) (a : Option Addr) (xs : List Int) (c : Nat) (s : ByteArray) (hv : ReadsOff w F a xs) (hxf : ∀ x ∈ xs, fitW x) (hm : headR k t xs.length s.size = true) :
    Calls Try.prog 9 #[.pointer (some ⟨p, 0, none⟩), heapV base half space top, obj k t a xs.length c s] w (PutT A base half space top ⟨k, t, xs, s.data.toList⟩ w p F) := by
  have HA := Lib.hid (fun W (hb : Below w.heap.size w W) => look_any (hA.below hb) base half space top)
  have HH := Lib.hid (headOf_yes k t a xs.length c s hm)
  have HAW := Lib.hid hA
  have HV := Lib.hid hv
  have HXF := Lib.hid hxf
  have HM := Lib.hid hm
  have HOK := Lib.hid hA.ok
  have HLT := Lib.hid hA.lt
  clear hA hm hv hxf
  go_enter Try.func9, Try.ntmps9
  go_wp2_with fail
  refine (HH.out _).mono ?_
  rintro e w1 ⟨rfl, b1⟩
  have hz := b1.size
  simp at hz
  have hz4 : w.heap.size < w1.heap.size := by omega
  have hz5 : w.heap.size + 1 < w1.heap.size := by omega
  have hz6 : w.heap.size + 1 + 1 < w1.heap.size := by omega
  have HB1 : Hid (Below w.heap.size w w1) := by
    show Below _ _ _
    repeat (first | exact Below.refl _ _ | refine bl_alloc ?_ _ | refine bl_call ?_ b1)
  have R4 : Hid (rowAt w1 w.heap.size 33 [.int .i64 base, .int .i64 half, .int .i64 space, .int .i64 top]) := (((rowAt.made w _ _).alloc _).alloc _).below b1 (by simp <;> omega)
  have R5 : Hid (rowAt w1 (w.heap.size + 1) 35 [.int .i64 k, .int .i64 t, .slice a xs.length c, .string s]) := ((rowAt.made_at (w := w.alloc _) _ _ (by simp)).alloc _).below b1 (by simp <;> omega)
  have R6 : Hid (rowAt w1 (w.heap.size + 1 + 1) 33 [.int .i64 0, .int .i64 0, .int .i64 0, .int .i64 0]) := (rowAt.made_at (w := (w.alloc _).alloc _) _ _ (by simp)).below b1 (by simp)
  have c0 := R4.out.cell 0
  have c1 := R4.out.cell 1
  have c2 := R4.out.cell 2
  have c3 := R4.out.cell 3
  simp only [List.getElem?_cons_zero, List.getElem?_cons_succ] at c0 c1 c2 c3
  clear b1
  generalize hS : sizeH k xs.length s.size = S
  have HS := Lib.hid hS
  clear hS
  go_wp2_with fail
  refine (HA.out _ (bl_alloc HB1.out _)).mono ?_
  rintro e w2 ⟨b2, ⟨obs, bw, bh, T, h1, h2, h3, h4, rfl, rfl, h6, h7, h8⟩ | ⟨h1, rfl⟩⟩
  · have HB2 : Hid (Below w1.heap.size w1 w2) := bl_call (bl_alloc (Below.refl _ _) _) b2
    have R9 : Hid (rowAt w2 w1.heap.size 66 [.int .i64 k, .int .i64 t, .int .i64 S]) := (rowAt.made w1 _ _).below b2 (by simp)
    have hml : (marks obs).length = T := by rw [marks_length]; exact h8
    have hxl : xs.length ≤ 100000 := by have := headR_len HM.out; omega
    have hcm := fun (W : World) (hb : Below w2.heap.size w2 W) => mayHold_any (space * half) ⟨h2, h3⟩ (some ⟨bw, 0, none⟩) (some ⟨bh, 0, none⟩) T (marks obs) (.slice a xs.length c) xs HXF.out hxl W (Marks.row (h7.below hb h7.lt) (by omega)) (HV.out.below (bl_call (bl_call HB1.out HB2.out) hb)).reads
    rw [hml] at hcm
    have hall : xs.all (fieldB (space * half) (marks obs)) = xs.all (fieldOk (space * half) obs) := by
      congr 1
      funext x
      exact fieldB_marks _ _ x
    rw [hall] at hcm
    have HOBS := Lib.hid h1
    have HH2 := Lib.hid (And.intro h2 (And.intro h3 (And.intro h4 h8)))
    have hz42 := HB2.out.size
    have hz62 : w.heap.size + 1 + 1 < w2.heap.size := by omega
    have hz52 : w.heap.size + 1 < w2.heap.size := by omega
    have r5 := R5.out.below HB2.out hz5
    have d0 := r5.cell 0
    have d1 := r5.cell 1
    have d2 := r5.cell 2
    have d3 := r5.cell 3
    simp only [List.getElem?_cons_zero, List.getElem?_cons_succ] at d0 d1 d2 d3
    clear hall h1 h6 h7 h8 hml b2 r5 c0 c1 c2 c3
    cases hf : xs.all (fieldOk (space * half) obs) with
    | false =>
      rw [hf] at hcm
      have HCM := Lib.hid hcm
      have HNO : Hid (A.putOk base half space (T : Int) ⟨k, t, xs, s.data.toList⟩ = false) := by
        show A.putOk _ _ _ _ _ = false
        unfold Ar.putOk
        rw [HOBS.out]
        simp only [hf, Bool.false_and, Bool.and_false]
      clear hcm hf
      go_wp2_with fail
      refine (HCM.out _ (bl_alloc (Below.refl _ _) _)).mono ?_
      rintro e w3 ⟨rfl, b3⟩
      have HB3 : Hid (Below w.heap.size w w3) := bl_call (bl_call HB1.out HB2.out) (bl_call (bl_alloc (Below.refl _ _) _) b3)
      have b3' : Below w1.heap.size w1 w3 := bl_call HB2.out (bl_call (bl_alloc (Below.refl _ _) _) b3)
      have r6 := R6.out.below b3' hz6
      have z0 := r6.cell 0
      have z1 := r6.cell 1
      have z2 := r6.cell 2
      have z3 := r6.cell 3
      have f0 := r6.free 0
      have f1 := r6.free 1
      have f2 := r6.free 2
      have f3 := r6.free 3
      simp only [List.getElem?_cons_zero, List.getElem?_cons_succ] at z0 z1 z2 z3
      have hz63 : w.heap.size + 1 + 1 < w3.heap.size := by have := b3'.size; omega
      clear b3 b3' r6
      go_wp2
      have hb : Below w.heap.size w (((((w3.setCell ⟨w.heap.size + 1 + 1, 0, none⟩ (.int .i64 0)).setCell ⟨w.heap.size + 1 + 1, 1, none⟩ (.int .i64 0)).setCell ⟨w.heap.size + 1 + 1, 2, none⟩ (.int .i64 0))).setCell ⟨w.heap.size + 1 + 1, 3, none⟩ (.int .i64 0)) := by
        repeat (first | exact HB3.out | refine bl_set ?_ (by simp <;> omega) _)
      refine bodyPost_ret (v := zeroPut) (by simp [results, Try.results9, go_sem, z0, z1, z2, z3, hz63]) rfl ⟨Step.of_below hb, .inr ⟨HNO.out, rfl, HAW.out.below hb⟩⟩
    | true =>
      rw [hf] at hcm
      have HCM := Lib.hid hcm
      have HF := Lib.hid hf
      clear hcm hf
      go_wp2_with fail
      refine (HCM.out _ (bl_alloc (Below.refl _ _) _)).mono ?_
      rintro e w3 ⟨rfl, b3⟩
      have hb3 : Below w1.heap.size w1 w3 := bl_call HB2.out (bl_call (bl_alloc (Below.refl _ _) _) b3)
      have R12 : Hid (rowAt w3 w2.heap.size 73 [.int .i64 (space * half), .slice (some ⟨bw, 0, none⟩) T T, .slice (some ⟨bh, 0, none⟩) T T]) := (rowAt.made w2 _ _).below b3 (by simp)
      have HB3 := Lib.hid hb3
      have HB23 : Hid (Below w2.heap.size w2 w3) := bl_call (bl_alloc (Below.refl _ _) _) b3
      have hz23 : w2.heap.size < w3.heap.size := by have := b3.size; simp at this; omega
      have hz13 := hb3.size
      clear b3 hb3 d0 d1 d2 d3
      have r5 := R5.out.below HB3.out hz5
      have d0 := r5.cell 0
      have d1 := r5.cell 1
      have d2 := r5.cell 2
      have d3 := r5.cell 3
      simp only [List.getElem?_cons_zero, List.getElem?_cons_succ] at d0 d1 d2 d3
      clear r5
      go_upto_region 5 with fail
      go_cut [14] (fun v14 wx => Body w3 F (Ob.body ⟨k, t, xs, s.data.toList⟩) v14 wx)
      case first =>
        have hk := headR_kind HM.out
        have HV3 := Lib.hid (HV.out.below (bl_call HB1.out HB3.out))
        rcases hk with rfl | rfl | rfl | rfl
        all_goals
          simp only [kindV, if_true, if_false, reduceIte, Int.reduceEq]
          go_wp2_with fail
          first
            | (with_reducible refine (flay_any _ _ _ _ _ _ _).mono ?_)
              rintro e w4 ⟨rfl, b4⟩
              go_wp2
              go_meet
              exact ⟨a, c, rfl, HV3.out.below b4, b4⟩
            | (with_reducible refine (lay_str _ _ _ _ _ (by have := headR_len HM.out; omega) _).mono ?_)
              rintro e w4 ⟨v4, rfl, ho4, b4⟩
              obtain ⟨a4, c4, rfl⟩ := owns_slice ho4
              have HO4 := Lib.hid ho4
              clear ho4
              go_wp2
              go_meet
              exact ⟨a4, c4, rfl, owns_readsOff HO4.out fun q hq => by have := HLT.out q hq; have := (bl_call HB1.out HB3.out).size; omega, b4⟩
      case rest =>
        rename_i u14
        obtain ⟨ab, cb, rfl, hro, hbc⟩ := hcut
        have hob := objs_ok HOK.out HOBS.out
        have hnums := lies_nums hob.2.2.2
        have hbl : (Ob.body ⟨k, t, xs, s.data.toList⟩).length = (Ob.words ⟨k, t, xs, s.data.toList⟩) - 1 := by
          rw [Ob.body_length]
          unfold Ob.words
          omega
        have hw1 := Ob.words_pos ⟨k, t, xs, s.data.toList⟩
        have HLAY : Hid (Ob.lay ⟨k, t, xs, s.data.toList⟩ = headW k t S :: Ob.body ⟨k, t, xs, s.data.toList⟩) := by
          show Ob.lay _ = _
          unfold Ob.lay Ob.head Ob.size
          rw [← HS.out, Lib.size_eq]
        have HLF : Hid (∀ x ∈ Ob.body ⟨k, t, xs, s.data.toList⟩, fitW x) := by
          intro x hx
          unfold Ob.body at hx
          split at hx
          · exact pack_fit _ x hx
          · exact HXF.out x hx
        have HPUT : Hid (A.putOk base half space (T : Int) ⟨k, t, xs, s.data.toList⟩ = decide (((Ob.words ⟨k, t, xs, s.data.toList⟩ : Nat) : Int) ≤ half - (T : Int))) := by
          show A.putOk _ _ _ _ _ = _
          unfold Ar.putOk
          rw [HOBS.out]
          have hm2 : Ob.may ⟨k, t, xs, s.data.toList⟩ = true := by
            rw [Ob.may_eq]
            have := HM.out
            rwa [Lib.size_eq] at this
          simp only [hm2, HF.out, Bool.true_and]
        have hS400 : S ≤ 400 := by have := headR_len HM.out; rw [← HS.out]; omega
        have hkt : 0 ≤ k ∧ k < 256 ∧ 0 ≤ t ∧ t < 16777216 := by
          have h := HM.out
          simp only [headR, Bool.and_eq_true] at h
          have := mayH_bounds h.2
          omega
        have HWD := Lib.hid (word_any' k t S ⟨hkt.1, hkt.2.1⟩ ⟨hkt.2.2.1, hkt.2.2.2⟩ (by omega))
        have HFT : Hid (fitW (headW k t S)) := by
          show fitW _
          unfold headW fitW
          omega
        have hz3c := hbc.size
        have r4 := (R4.out.below HB3.out hz4).below hbc (by omega)
        have r9 := (R9.out.below HB23.out R9.out.lt).below hbc (by have := R9.out.lt; omega)
        have r12 := R12.out.below hbc hz23
        have r6 := (R6.out.below HB3.out hz6).below hbc (by omega)
        have HAC := Lib.hid (HAW.out.below (bl_call (bl_call HB1.out HB3.out) hbc))
        have HBC := Lib.hid (bl_call (bl_call HB1.out HB3.out) hbc)
        have HRO := Lib.hid hro
        have HN := Lib.hid hnums
        have hz12 := R9.out.lt
        generalize hBd : Ob.body ⟨k, t, xs, s.data.toList⟩ = Bd at *
        have hfi0 := HH2.out.1
        have hfi1 := HH2.out.2.1
        have hh1 : half ≤ 2000 := hnums.2.1
        have hh2 : (T : Int) ≤ half := hnums.2.2.2.2.2.1
        have hT4 : T ≤ 2000 := HH2.out.2.2.1
        generalize hFI : space * half = FI at *
        have hbm : Bd.length ≤ 400 := by
          have := headR_len HM.out
          rw [← hBd, Ob.body_length]
          have e3 : Ob.long ⟨k, t, xs, s.data.toList⟩ = longH k (sizeH k xs.length s.data.toList.length) := rfl
          rw [Lib.size_eq] at this
          rw [e3]
          unfold longH
          split <;> omega
        have HBL : Hid ((Ob.words ⟨k, t, xs, s.data.toList⟩ : Nat) = 1 + Bd.length) := by show _ = _; omega
        have HFI := Lib.hid hFI
        clear hBd hFI hob hnums hbl hw1 hbc hro HA HH HCM HF HOBS HH2 HV R5 R12 R9 R4 R6 HB23 d0 d1 d2 d3
        have c0 := r4.cell 0
        have c1 := r4.cell 1
        have c2 := r4.cell 2
        have c3 := r4.cell 3
        have e0 := r9.cell 0
        have e1 := r9.cell 1
        have e2 := r9.cell 2
        have g0 := r12.cell 0
        have z0 := r6.cell 0
        have z1 := r6.cell 1
        have z2 := r6.cell 2
        have z3 := r6.cell 3
        have f0 := r6.free 0
        have f1 := r6.free 1
        have f2 := r6.free 2
        have f3 := r6.free 3
        simp only [List.getElem?_cons_zero, List.getElem?_cons_succ] at c0 c1 c2 c3 e0 e1 e2 g0 z0 z1 z2 z3
        have hz6c : w.heap.size + 1 + 1 < wc.heap.size := by omega
        by_cases hroom : half - (T : Int) ≤ (Bd.length : Int)
        · have HNO : Hid (A.putOk base half space (T : Int) ⟨k, t, xs, s.data.toList⟩ = false) := by
            show _ = _
            rw [HPUT.out, HBL.out]
            exact decide_eq_false (by omega)
          clear HPUT HLAY HLF HWD HFT hz12 r4 r9 r12 r6
          go_wp2
          have hb : Below w.heap.size w (((((wc.setCell ⟨w.heap.size + 1 + 1, 0, none⟩ (.int .i64 0)).setCell ⟨w.heap.size + 1 + 1, 1, none⟩ (.int .i64 0)).setCell ⟨w.heap.size + 1 + 1, 2, none⟩ (.int .i64 0))).setCell ⟨w.heap.size + 1 + 1, 3, none⟩ (.int .i64 0)) := by
            repeat (first | exact HBC.out | refine bl_set ?_ (by simp <;> omega) _)
          refine bodyPost_ret (v := zeroPut) (by simp [results, Try.results9, go_sem, z0, z1, z2, z3, hz6c]) rfl ⟨Step.of_below hb, .inr ⟨HNO.out, rfl, HAW.out.below hb⟩⟩
        · have hroom2 : (Bd.length : Int) < half - (T : Int) := by omega
          have HYES : Hid (A.putOk base half space (T : Int) ⟨k, t, xs, s.data.toList⟩ = true) := by
            show _ = _
            rw [HPUT.out, HBL.out]
            exact decide_eq_true (by omega)
          have hq := HLT.out
          have nF4 : ¬ F w.heap.size := fun h => by have := hq _ h; omega
          have nF9 : ¬ F w1.heap.size := fun h => by have := hq _ h; omega
          have nF6 : ¬ F (w.heap.size + 1 + 1) := fun h => by have := hq _ h; omega
          have HNF := Lib.hid (And.intro nF4 (And.intro nF9 nF6))
          have HR4 := Lib.hid r4
          have HR6 := Lib.hid r6
          have HR9 := Lib.hid r9
          have hz4c : w.heap.size < wc.heap.size := by omega
          have hz9c : w1.heap.size < wc.heap.size := by omega
          clear hroom HPUT hq nF4 nF9 nF6 r4 r6 r9 r12 z0 z1 z2 z3 f0 f1 f2 f3
          have HK6 : Hid (∀ (W : World), Upon F wc W → rowAt W w.heap.size 33 [.int .i64 base, .int .i64 half, .int .i64 space, .int .i64 (T : Int)] ∧ rowAt W w1.heap.size 66 [.int .i64 k, .int .i64 t, .int .i64 S] ∧ rowAt W (w.heap.size + 1 + 1) 33 [.int .i64 0, .int .i64 0, .int .i64 0, .int .i64 0] ∧ ReadsOff W F ab Bd) := fun W hu => ⟨HR4.out.upon hu HNF.out.1, HR9.out.upon hu HNF.out.2.1, HR6.out.upon hu HNF.out.2.2, HRO.out.upon hu⟩
          go_wp2
          go_region_held3 (fun w' => w'.cell? ⟨w.heap.size, 0, none⟩ = some (.int .i64 base) ∧ w'.cell? ⟨w1.heap.size, 0, none⟩ = some (.int .i64 k) ∧ w'.cell? ⟨w1.heap.size, 1, none⟩ = some (.int .i64 t) ∧ w'.cell? ⟨w1.heap.size, 2, none⟩ = some (.int .i64 S)) (first | exact ⟨c0, e0, e1, e2⟩ | exact ⟨y0, y1, y2, y3⟩)
            (first
              | ((with_reducible refine (HWD.out _).mono ?_)
                 rintro e w5 ⟨rfl, b5⟩
                 have b5' : Below wc.heap.size wc w5 := bl_call (bl_drew (Below.refl _ _)) b5
                 have u5 : Upon F wc w5 := Upon.of_below b5'
                 have y0 := (HK6.out w5 u5).1.cell 0
                 have y1 := (HK6.out w5 u5).2.1.cell 0
                 have y2 := (HK6.out w5 u5).2.1.cell 1
                 have y3 := (HK6.out w5 u5).2.1.cell 2
                 simp only [List.getElem?_cons_zero, List.getElem?_cons_succ] at y0 y1 y2 y3
                 have HB5 := Lib.hid b5'
                 clear b5 b5' u5)
              | ((with_reducible refine (set_h (HAC.out.below HB5.out) base (FI + (T : Int)) (headW k t S) (fitW_wf HFT.out)).mono ?_)
                 rintro e w6 ⟨rfl, h6, s6⟩
                 have u6 : Step F F wc w6 := (Step.of_below HB5.out).chain s6
                 have y0 := (HK6.out w6 u6.upon).1.cell 0
                 have y1 := (HK6.out w6 u6.upon).2.1.cell 0
                 have y2 := (HK6.out w6 u6.upon).2.1.cell 1
                 have y3 := (HK6.out w6 u6.upon).2.1.cell 2
                 simp only [List.getElem?_cons_zero, List.getElem?_cons_succ] at y0 y1 y2 y3
                 have H6 := Lib.hid h6
                 have U6 := Lib.hid u6
                 clear h6 s6 u6))
          all_goals
            clear c0 c1 c2 c3 e0 e1 e2 y0 y1 y2 y3
            go_wp2
            go_loopw [70] (fun i wr => ∃ j : Nat, i = .int .i64 (j : Int) ∧ j ≤ Bd.length ∧ Hid (Held wr p F ((A.set base (FI + (T : Int)) (headW k t S)).puts base (FI + (T : Int) + 1) (Bd.take j)) ∧ Step F F wc wr)) (fun i _ => Bd.length - (intOf i).toNat)
            case atStart => exact ⟨0, rfl, Nat.zero_le _, H6.out, U6.out⟩
            case round =>
              obtain ⟨j, rfl, hj, HR⟩ := hrel
              have hk6 := HK6.out wr HR.out.2.upon
              have c0 := hk6.1.cell 0
              have c1 := hk6.1.cell 1
              have c2 := hk6.1.cell 2
              have c3 := hk6.1.cell 3
              simp only [List.getElem?_cons_zero, List.getElem?_cons_succ] at c0 c1 c2 c3
              have hsr := HR.out.2.upon.size
              by_cases hlt : j < Bd.length
              · obtain ⟨b, o, hab, hnf, hcell⟩ := hk6.2.2.2 j (.int .u64 Bd[j]) (by rw [List.getElem?_map, List.getElem?_eq_getElem hlt]; rfl)
                subst hab
                have hsn := Ar.puts_snoc base Bd[j] (Bd.take j) (A.set base (FI + (T : Int)) (headW k t S)) (FI + (T : Int) + 1)
                rw [← List.take_succ_eq_append_getElem hlt, List.length_take, Nat.min_eq_left hj] at hsn
                have HSN := Lib.hid hsn
                have HFX := Lib.hid (fitW_wf (HLF.out _ (List.getElem_mem hlt)))
                clear hk6 hnf hsn
                generalize Bd[j] = X at *
                go_wp2_with fail
                refine (set_h HR.out.1 base (FI + (T : Int) + 1 + (j : Int)) X HFX.out).mono ?_
                rintro e w7 ⟨rfl, h7, s7⟩
                have HR7 : Hid (Held w7 p F ((A.set base (FI + (T : Int)) (headW k t S)).puts base (FI + (T : Int) + 1) (Bd.take (j + 1))) ∧ Step F F wc w7) := by
                  refine ⟨?_, HR.out.2.chain s7⟩
                  rw [HSN.out]
                  exact h7
                clear h7 s7
                go_wp2
                go_roundw
                case rel => exact ⟨j + 1, by simp, by omega, HR7.out⟩
                case measure => simp [intOf]; omega
              · obtain rfl : j = Bd.length := by omega
                have fz := hk6.1.free 3
                clear hk6 hlt
                have ne46 : w.heap.size + 1 + 1 ≠ w.heap.size := by omega
                have ne64 : w.heap.size ≠ w.heap.size + 1 + 1 := by omega
                have HPL := Lib.hid (place_any (FI + (T : Int)) (by omega) (by omega))
                go_wp2
                clear c0 c1 c2 c3
                obtain ⟨W, hW⟩ : ∃ W, W = wr.setCell ⟨w.heap.size, 3, none⟩ (.int .i64 ((T : Int) + (1 + (Bd.length : Int)))) := ⟨_, rfl⟩
                rw [← hW]
                have hsW : Step (fun k => k = w.heap.size) (fun _ => False) wr W := by rw [hW]; exact ⟨Upon.setCell _ _ rfl, fun _ h => h.elim⟩
                have k6 := HK6.out wr HR.out.2.upon
                have rW : rowAt W w.heap.size 33 [.int .i64 base, .int .i64 half, .int .i64 space, .int .i64 ((T : Int) + (1 + (Bd.length : Int)))] := by rw [hW]; exact k6.1.set 3 _
                have rZ : rowAt W (w.heap.size + 1 + 1) 33 [.int .i64 0, .int .i64 0, .int .i64 0, .int .i64 0] := by rw [hW]; exact k6.2.2.1.other _ _ ne46
                have HHW : Hid (Held W p F ((A.set base (FI + (T : Int)) (headW k t S)).puts base (FI + (T : Int) + 1) (Bd.take Bd.length)) ∧ Step F F w W) := by
                  refine ⟨HR.out.1.upon hsW.upon fun q hq e => HNF.out.1 (e ▸ hq), ?_⟩
                  have h1 : Step F F w wr := (Step.of_below HBC.out).chain HR.out.2
                  exact ⟨(h1.upon.trans hsW.upon fun i hi e => by omega), fun _ h => .inl h⟩
                have c0 := rW.cell 0
                have c1 := rW.cell 1
                have c2 := rW.cell 2
                have c3 := rW.cell 3
                have z0 := rZ.cell 0
                have z1 := rZ.cell 1
                have z2 := rZ.cell 2
                have z3 := rZ.cell 3
                have f0 := rZ.free 0
                have f1 := rZ.free 1
                have f2 := rZ.free 2
                have f3 := rZ.free 3
                have hsW2 : w.heap.size + 1 + 1 < W.heap.size := rZ.lt
                simp only [List.getElem?_cons_zero, List.getElem?_cons_succ] at c0 c1 c2 c3 z0 z1 z2 z3
                clear hW k6 rW rZ hsW
                refine wp_region_still_tail 3 (by kernel_rfl) (by kernel_rfl) ?_
                simp only [List.take_succ_cons, List.take_zero, List.drop_succ_cons, List.drop_zero]
                iterate 2 still_step
                still_call ((HPL.out _).mono fun _ _ h => ⟨h.1, h.2.symm⟩)
                refine wpStill_nil ?_
                change wpList _ _ _ _ _ W.drew
                go_wp2
                have hup := ((((Upon.setCell (S := fun q => q = w.heap.size + 1 + 1) (w := W) ⟨w.heap.size + 1 + 1, 0, none⟩ (.int .i64 base) rfl).trans (Upon.setCell (S := fun q => q = w.heap.size + 1 + 1) ⟨w.heap.size + 1 + 1, 1, none⟩ (.int .i64 half) rfl) (fun _ _ h => h)).trans (Upon.setCell (S := fun q => q = w.heap.size + 1 + 1) ⟨w.heap.size + 1 + 1, 2, none⟩ (.int .i64 space) rfl) (fun _ _ h => h)).trans (Upon.setCell (S := fun q => q = w.heap.size + 1 + 1) ⟨w.heap.size + 1 + 1, 3, none⟩ (.int .i64 ((T : Int) + (1 + (Bd.length : Int)))) rfl) (fun _ _ h => h)).trans (Upon.drewN (fun _ => False) _ 1) (fun _ _ h => h.elim)
                refine bodyPost_ret (v := .tuple #[heapV base half space ((T : Int) + (1 + (Bd.length : Int))), .int .u64 (wPlace (FI + (T : Int))), .bool true]) (by simp [results, Try.results9, go_sem, z0, z1, z2, z3, hsW2]) rfl ⟨⟨HHW.out.2.upon.trans hup fun i hi e => by omega, fun _ h => .inl h⟩, .inl ⟨HYES.out, ?_, ?_⟩⟩
                · rw [HFI.out, HBL.out, Int.natCast_add]
                  rfl
                · have h9 := HHW.out.1.upon hup fun q hq e => HNF.out.2.2 (e ▸ hq)
                  rw [List.take_of_length_le (Nat.le_refl _)] at h9
                  rw [HLAY.out, HFI.out]
                  exact h9
  · have HB2 : Hid (Below w1.heap.size w1 w2) := bl_call (bl_alloc (Below.refl _ _) _) b2
    have HNO : Hid (A.putOk base half space top ⟨k, t, xs, s.data.toList⟩ = false) := by
      show A.putOk _ _ _ _ _ = false
      unfold Ar.putOk
      rw [h1]
      simp only [Bool.and_false]
    have r6 := R6.out.below HB2.out hz6
    have z0 := r6.cell 0
    have z1 := r6.cell 1
    have z2 := r6.cell 2
    have z3 := r6.cell 3
    have f0 := r6.free 0
    have f1 := r6.free 1
    have f2 := r6.free 2
    have f3 := r6.free 3
    simp only [List.getElem?_cons_zero, List.getElem?_cons_succ] at z0 z1 z2 z3
    have hs2 := HB2.out.size
    have hz62 : w.heap.size + 1 + 1 < w2.heap.size := by omega
    have HB3 : Hid (Below w.heap.size w w2) := bl_call HB1.out HB2.out
    clear h1 b2 r6
    go_wp2
    have hb : Below w.heap.size w ((((((w2.setCell ⟨w.heap.size + 1 + 1, 0, none⟩ (.int .i64 0)).setCell ⟨w.heap.size + 1 + 1, 1, none⟩ (.int .i64 0)).setCell ⟨w.heap.size + 1 + 1, 2, none⟩ (.int .i64 0))).setCell ⟨w.heap.size + 1 + 1, 3, none⟩ (.int .i64 0)).alloc (.cells #[.int .i64 0, .slice none 0 0, .slice none 0 0] 73)) := by
      repeat (first | exact HB3.out | refine bl_alloc ?_ _ | refine bl_set ?_ (by simp <;> omega) _)
    refine bodyPost_ret (v := zeroPut) (by simp [results, Try.results9, go_sem, z0, z1, z2, z3, hz62]) rfl ⟨Step.of_below hb, .inr ⟨HNO.out, rfl, HAW.out.below hb⟩⟩
end Go.Proofs.Ytnjpjhlodamanaa
