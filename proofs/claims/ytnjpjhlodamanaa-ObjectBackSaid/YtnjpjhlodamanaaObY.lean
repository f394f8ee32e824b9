/-
  A field is set ('Set'); 'Put' of whatever object.
  Conditions: as each states.
-/
import Derived.Test.YtnjpjhlodamanaaObX
import Derived.Test.YtnjpjhlodamanaaObU
namespace Go.Proofs.Ytnjpjhlodamanaa
open Go.ChangeShapes Go.WideShapes Go.ChangeAt Go.RowKit
set_option linter.unusedVariables false
set_option linter.unusedSimpArgs false
set_option maxRecDepth 100000

theorem put_any {w : World} {p : Nat} {F : Nat → Prop} {A : Ar} (hA : Held w p F A) (base half space top k t : Int) (a : Option Addr) (xs : List Int) (c : Nat) (s : ByteArray) (hv : ReadsOff w F a xs) (hxf : ∀ x ∈ xs, fitW x) :
    Calls Try.prog 9 #[.pointer (some ⟨p, 0, none⟩), heapV base half space top, obj k t a xs.length c s] w (PutT A base half space top ⟨k, t, xs, s.data.toList⟩ w p F) := by
  cases hm : headR k t xs.length s.size with
  | true => exact put_good hA base half space top k t a xs c s hv hxf hm
  | false =>
    refine (put_bad hA base half space top k t a xs.length c s hm).mono ?_
    rintro e w' ⟨rfl, hb⟩
    refine ⟨Step.of_below hb, .inr ⟨?_, rfl, hA.below hb⟩⟩
    have h2 : Ob.may ⟨k, t, xs, s.data.toList⟩ = false := by
      rw [Ob.may_eq]
      rwa [Lib.size_eq] at hm
    unfold Ar.putOk
    rw [h2, Bool.false_and]

/-- The place that 'Set' writes. -/
def Ar.setAt (A : Ar) (base half space top x i v : Int) : Option Int := match A.objs base half space top with
  | some obs => match refers (space * half) obs x with
    | some m => match objAt obs m with
      | some o => if 0 ≤ i ∧ i < o.fs.length ∧ fieldOk (space * half) obs v = true then some (space * half + (m : Int) + 1 + i) else none
      | none => none
    | none => none
  | none => none

/-- What 'Set' tells. -/
def SetT (A : Ar) (base half space top x i v : Int) (w : World) (p : Nat) (F : Nat → Prop) (e : Ending) (w' : World) : Prop :=
  Step F F w w' ∧ ((∃ q, A.setAt base half space top x i v = some q ∧ e = .returned (.bool true) ∧ Held w' p F (A.set base q v)) ∨
    (A.setAt base half space top x i v = none ∧ e = .returned (.bool false) ∧ Held w' p F A))

set_option maxHeartbeats 16000000 in
theorem set_any' {w : World} {p : Nat} {F : Nat → Prop} {A : Ar} (hA : Held w p F A) (base half space top x i v : Int) (hx : fitW x) (hv : fitW v) (hi1 : -9223372036854775808 ≤ i) (hi2 : i ≤ 9223372036854775807) :
    Calls Try.prog 14 #[.pointer (some ⟨p, 0, none⟩), heapV base half space top, .int .u64 x, .int .i64 i, .int .u64 v] w (SetT A base half space top x i v w p F) := by
  have HA := Lib.hid (fun W (hb : Below w.heap.size w W) => look_any (hA.below hb) base half space top)
  have HAW := Lib.hid hA
  have HOK := Lib.hid hA.ok
  have HLT := Lib.hid hA.lt
  have HX := Lib.hid hx
  have HV := Lib.hid hv
  clear hA hx hv
  go_enter Try.func14, Try.ntmps14
  go_wp2_with fail
  refine (HA.out _ (bl_alloc (Below.refl _ _) _)).mono ?_
  rintro e w1 ⟨b1, hlook⟩
  have hz := b1.size
  simp at hz
  have hz4 : w.heap.size < w1.heap.size := by omega
  have HB1 : Hid (Below w.heap.size w w1) := bl_call (bl_alloc (Below.refl _ _) _) b1
  have R6 : Hid (rowAt w1 w.heap.size 33 [.int .i64 base, .int .i64 half, .int .i64 space, .int .i64 top]) := (rowAt.made w _ _).below b1 (by simp)
  clear b1
  rcases hlook with ⟨obs, bw, bh, T, h1, h2, h3, h4, rfl, rfl, h6, h7, h8⟩ | ⟨h1, rfl⟩
  · have hml : (marks obs).length = T := by rw [marks_length]; exact h8
    have hfi := fun (W : World) (hb : Below w1.heap.size w1 W) => find_any (space * half) ⟨h2, h3⟩ (some ⟨bw, 0, none⟩) (some ⟨bh, 0, none⟩) T (marks obs) x HX.out W (Marks.row (h7.below hb h7.lt) (by omega))
    rw [hml] at hfi
    simp only [findI_marks] at hfi
    have hob := objs_ok HOK.out h1
    have hgo : A.setAt base half space (T : Int) x i v = match refers (space * half) obs x with | some m => (match objAt obs m with | some o => if 0 ≤ i ∧ i < o.fs.length ∧ fieldOk (space * half) obs v = true then some (space * half + (m : Int) + 1 + i) else none | none => none) | none => none := by unfold Ar.setAt; rw [h1]
    have hwd : ∀ (W : World), Below w1.heap.size w1 W → ∀ i y, (flat obs)[i]? = some y → W.cell? ⟨bw, i, none⟩ = some (.int .u64 y) := fun W hb i y hy => by
      rw [(h6.below hb h6.lt).cell, List.getElem?_map, hy]
      rfl
    have hcm := fun (W : World) (hb : Below w1.heap.size w1 W) (a : Option Addr) (hr : readsAt W (.slice a 1 1) 1 [.int .u64 v]) => mayHold_any (space * half) ⟨h2, h3⟩ (some ⟨bw, 0, none⟩) (some ⟨bh, 0, none⟩) T (marks obs) (.slice a 1 1) [v] (fun y hy => by simp at hy; subst hy; exact HV.out) (by simp) W (Marks.row (h7.below hb h7.lt) (by omega)) hr
    rw [hml] at hcm
    have hall : [v].all (fieldB (space * half) (marks obs)) = fieldOk (space * half) obs v := by simp [fieldB_marks]
    simp only [hall] at hcm
    have HCM := Lib.hid hcm
    have HH := Lib.hid (And.intro h2 (And.intro h3 (And.intro h4 h8)))
    have HOB := Lib.hid hob.1
    have HIN : Hid (∀ q, 0 ≤ q → q < space * half + (T : Int) → A.inB base q = true) := by
      intro q h0 hq
      have hf := lies_find hob.2.2.2
      have hn := lies_nums hob.2.2.2
      unfold Ar.inB
      rw [hf]
      exact decide_eq_true (by omega)
    have HWD : Hid (∀ (W : World), Below w1.heap.size w1 W → ∀ i y, (flat obs)[i]? = some y → W.cell? ⟨bw, i, none⟩ = some (.int .u64 y)) := hwd
    clear h1 h6 h7 hml hwd hob h8 hcm hall
    generalize space * half = FI at *
    cases hr : refers FI obs x with
    | none =>
      simp only [hr] at hgo
      rw [hr] at hfi
      simp only [findV] at hfi
      have HFI := Lib.hid hfi
      have HGO := Lib.hid hgo
      clear hfi hgo hr
      go_wp2_with fail
      refine (HFI.out _ (bl_alloc (Below.refl _ _) _)).mono ?_
      rintro e w2 ⟨rfl, b2⟩
      have HB2 : Hid (Below w.heap.size w w2) := bl_call HB1.out (bl_call (bl_alloc (Below.refl _ _) _) b2)
      clear b2
      go_wp2
      go_ret
      exact ⟨Step.of_below HB2.out, .inr ⟨HGO.out, rfl, HAW.out.below HB2.out⟩⟩
    | some m =>
      obtain ⟨o, ho⟩ := refers_some hr
      simp only [hr, ho] at hgo
      rw [hr] at hfi
      simp only [findV] at hfi
      have HFI := Lib.hid hfi
      have hmay := (HOB.out o (objAt_mem obs m o ho)).1
      have hmh := (Ob.may_split hmay).2
      have hsp : m + 1 + longH o.kind o.size ≤ T := by
        obtain ⟨_, _, h2⟩ := objAt_words ho
        have := HH.out.2.2.2
        have e : o.words = 1 + longH o.kind o.size := rfl
        omega
      have hmT : m < T := by omega
      have hfl : o.fs.length ≤ 400 := by
        have h1 := mayH_bounds hmh
        by_cases hk2 : o.kind = 2
        · rw [Ob.fs_nil hmay hk2]; simp
        · have : o.size = o.fs.length := by simp [Ob.size, sizeH, hk2]
          omega
      have hmL : m + 1 + o.fs.length ≤ T := by
        by_cases hk2 : o.kind = 2
        · rw [Ob.fs_nil hmay hk2]; simp; omega
        · have e1 : longH o.kind o.size = o.fs.length := by simp [longH, Ob.size, sizeH, hk2]
          omega
      have HCF : Hid (∀ (W : World), Below w1.heap.size w1 W → Calls Try.prog 36 #[viewV FI (some ⟨bw, 0, none⟩) (some ⟨bh, 0, none⟩) T T, .int .i64 (m : Int)] W fun e w' => ∃ a c, e = .returned (.slice a o.fs.length c) ∧ Below W.heap.size W w') := by
        intro W hb
        refine (fields_raw FI bw m T (some ⟨bh, 0, none⟩) o.kind o.tag o.size hmh (by omega) hsp W (HWD.out W hb _ _ (flat_at ho).1)).mono ?_
        rintro e w' ⟨rfl, hb'⟩
        obtain ⟨a, c, e, _⟩ := fields_reads ho HOB.out (w := W) (bw := bw) (HWD.out W hb) T (T - (m + 1)) HH.out.2.2.2.symm
        exact ⟨a, c, by rw [e], hb'⟩
      clear hfi hr ho hmay hmh hsp
      generalize o.fs.length = L at *
      go_wp2_with fail
      refine (HFI.out _ (bl_alloc (Below.refl _ _) _)).mono ?_
      rintro e w2 ⟨rfl, b2⟩
      have HB2 : Hid (Below w1.heap.size w1 w2) := bl_call (bl_alloc (Below.refl _ _) _) b2
      have R11 : Hid (rowAt w2 w1.heap.size 73 [.int .i64 FI, .slice (some ⟨bw, 0, none⟩) T T, .slice (some ⟨bh, 0, none⟩) T T]) := (rowAt.made w1 _ _).below b2 (by simp)
      have g0 := R11.out.cell 0
      have g1 := R11.out.cell 1
      have g2 := R11.out.cell 2
      simp only [List.getElem?_cons_zero, List.getElem?_cons_succ] at g0 g1 g2
      clear b2
      by_cases hi0 : i < 0
      · have HGO : Hid (A.setAt base half space (T : Int) x i v = none) := by show _ = _; rw [hgo, if_neg (by omega)]
        clear hgo
        have HB3 : Hid (Below w.heap.size w w2) := bl_call HB1.out HB2.out
        go_wp2
        go_ret
        exact ⟨Step.of_below HB3.out, .inr ⟨HGO.out, rfl, HAW.out.below HB3.out⟩⟩
      · have hi0' : 0 ≤ i := by omega
        have hgo2 : A.setAt base half space (T : Int) x i v = if i < (L : Int) ∧ fieldOk FI obs v = true then some (FI + (m : Int) + 1 + i) else none := by
          rw [hgo]
          simp only [hi0', true_and]
        clear hgo hi0
        by_cases hiL : (L : Int) ≤ i
        · have HGO : Hid (A.setAt base half space (T : Int) x i v = none) := by show _ = _; rw [hgo2, if_neg (by omega)]
          clear hgo2
          go_wp2_with fail
          refine (HCF.out _ HB2.out).mono ?_
          rintro e w3 ⟨fa, fc, rfl, b3⟩
          have HB3 : Hid (Below w.heap.size w w3) := bl_call (bl_call HB1.out HB2.out) b3
          clear b3
          go_wp2
          go_ret
          exact ⟨Step.of_below HB3.out, .inr ⟨HGO.out, rfl, HAW.out.below HB3.out⟩⟩
        · have hiL' : i < (L : Int) := by omega
          have hgo3 : A.setAt base half space (T : Int) x i v = if fieldOk FI obs v = true then some (FI + (m : Int) + 1 + i) else none := by
            rw [hgo2]
            simp only [hiL', true_and]
          clear hgo2 hiL
          cases hfv : fieldOk FI obs v with
          | false =>
            have HGO : Hid (A.setAt base half space (T : Int) x i v = none) := by show _ = _; rw [hgo3, hfv]; rfl
            rw [hfv] at HCM
            clear hgo3 hfv
            go_wp2_with fail
            refine (HCF.out _ HB2.out).mono ?_
            rintro e w3 ⟨fa, fc, rfl, b3⟩
            have hb13 : Below w1.heap.size w1 w3 := bl_call HB2.out b3
            have HB13 := Lib.hid hb13
            have r11 := R11.out.below b3 R11.out.lt
            have g0 := r11.cell 0
            have g1 := r11.cell 1
            have g2 := r11.cell 2
            simp only [List.getElem?_cons_zero, List.getElem?_cons_succ] at g0 g1 g2
            clear b3 hb13 r11
            go_wp2_with fail
            refine (HCM.out _ (bl_call HB13.out (bl_alloc (Below.refl _ _) _)) _ ?_).mono ?_
            · exact readsAt.row (rest := []) (rowAt.made w3 _ _)
            rintro e w4 ⟨rfl, b4⟩
            have HB4 : Hid (Below w.heap.size w w4) := bl_call (bl_call HB1.out HB13.out) (bl_call (bl_alloc (Below.refl _ _) _) b4)
            clear b4
            go_wp2
            go_ret
            exact ⟨Step.of_below HB4.out, .inr ⟨HGO.out, rfl, HAW.out.below HB4.out⟩⟩
          | true =>
            have HGO : Hid (A.setAt base half space (T : Int) x i v = some (FI + (m : Int) + 1 + i)) := by show _ = _; rw [hgo3, hfv]; rfl
            rw [hfv] at HCM
            clear hgo3 hfv
            go_wp2_with fail
            refine (HCF.out _ HB2.out).mono ?_
            rintro e w3 ⟨fa, fc, rfl, b3⟩
            have hb13 : Below w1.heap.size w1 w3 := bl_call HB2.out b3
            have HB13 := Lib.hid hb13
            have r11 := R11.out.below b3 R11.out.lt
            have g0 := r11.cell 0
            have g1 := r11.cell 1
            have g2 := r11.cell 2
            simp only [List.getElem?_cons_zero, List.getElem?_cons_succ] at g0 g1 g2
            have R11' := Lib.hid r11
            clear b3 hb13 r11
            go_wp2_with fail
            refine (HCM.out _ (bl_call HB13.out (bl_alloc (Below.refl _ _) _)) _ ?_).mono ?_
            · exact readsAt.row (rest := []) (rowAt.made w3 _ _)
            rintro e w4 ⟨rfl, b4⟩
            have hb4 : Below w3.heap.size w3 w4 := bl_call (bl_alloc (Below.refl _ _) _) b4
            have HB4 : Hid (Below w.heap.size w w4) := bl_call (bl_call HB1.out HB13.out) hb4
            have r11 := R11'.out.below hb4 R11'.out.lt
            have r6 := R6.out.below (bl_call HB13.out hb4) hz4
            have g0 := r11.cell 0
            have c0 := r6.cell 0
            simp only [List.getElem?_cons_zero, List.getElem?_cons_succ] at g0 c0
            have hfa := HH.out.1
            have hfb := HH.out.2.1
            have hfc := HH.out.2.2.1
            clear b4 hb4 r11 r6
            go_wp2_with fail
            refine (set_h (HAW.out.below HB4.out) base (FI + (m : Int) + 1 + i) v (fitW_wf HV.out)).mono ?_
            rintro e w5 ⟨rfl, h5, s5⟩
            have H5 := Lib.hid h5
            have S5 := Lib.hid s5
            clear h5 s5
            go_wp2
            go_ret
            refine ⟨(Step.of_below HB4.out).chain S5.out, .inl ⟨_, HGO.out, ?_, H5.out⟩⟩
            exact ret_bool (HIN.out _ (by omega) (by omega))
  · have hgo : A.setAt base half space top x i v = none := by unfold Ar.setAt; rw [h1]
    have hfi := fun (W : World) => find_any 0 ⟨by omega, by omega⟩ none none 0 [] x HX.out W (Marks.none W)
    have hn : findI 0 [] x = none := by simp [findI]
    simp only [hn, findV] at hfi
    have HFI := Lib.hid hfi
    have HGO := Lib.hid hgo
    clear hfi hgo hn h1
    go_wp2_with fail
    refine (HFI.out _).mono ?_
    rintro e w2 ⟨rfl, b2⟩
    have HB2 : Hid (Below w.heap.size w w2) := bl_call HB1.out (bl_call (bl_alloc (Below.refl _ _) _) b2)
    clear b2
    go_wp2
    go_ret
    exact ⟨Step.of_below HB2.out, .inr ⟨HGO.out, rfl, HAW.out.below HB2.out⟩⟩
end Go.Proofs.Ytnjpjhlodamanaa
