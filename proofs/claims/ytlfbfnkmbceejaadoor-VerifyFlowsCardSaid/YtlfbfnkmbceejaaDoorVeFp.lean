/-
  What the law VerifyFlows leans on: a slice of bools as an argument; what a step of a right function leads to.
  Conditions: as each states.
-/
import Derived.Test.YtlfbfnkmbceejaaDoorVeBw
import Derived.Test.YtlfbfnkmbceejaaDoorCoRh
import Derived.ChangeArms
namespace Go.Proofs.YtlfbfnkmbceejaaDoor
open Go.ChangeShapes Go.WideShapes Go.ChangeAt Go.RowKit Go.Deep
set_option linter.unusedVariables false
set_option linter.unusedSimpArgs false
set_option maxRecDepth 100000

section
variable {H : Type} {enc : TypeId × Value → H} {P : Program} {w : World} {base : Nat} {spare : Nat → Bool} {held : Bool}
theorem flat_bool (l : List Bool) : l.flatMap (fun z : Bool => [Value.bool z]) = l.map Value.bool := by
  induction l with
  | nil => rfl
  | cons z l ih => rw [List.flatMap_cons, ih]; rfl
theorem open_bools {t e : TypeId} {v : Value} {d : DataW H} {ps : List MemPlace} {r : Reach} {b0 : Nat} (ht : P.underlying t = some (.slice e)) (he : P.underlying e = some .bool) (hc : P.cellsOf e = 1) (hB : 1 ≤ P.bytesOf e)
    (hw : WB P t d) (hval : Value.okWide P w r b0 t v) (h : DataW.Trod enc P w base spare held t v d ps) :
    ∃ l : List Bool, rdAt (fun _ => False) w v l.length (l.map Value.bool) ∧ l.length ≤ reachBytes := by
  obtain ⟨fuel, hf⟩ := h
  obtain ⟨a, c, xs, h1, h2, h3, h4, h5, h6⟩ := open_slice_gen (R := fun vs (z : Bool) => vs = [.bool z]) ht hc (by decide) hB hw hf fun n vs y _ hl hy => by
    obtain ⟨z, hz, _⟩ := DataW.trod_bool he hy
    exact ⟨z, hz⟩
  have hv : v = .slice a xs.length c := by
    cases v with
    | agg cs =>
      exfalso
      unfold Value.okWide at hval
      rw [ht] at hval
      simp only [Value.cells] at h1
      obtain ⟨cs⟩ := cs
      simp only at h1
      subst h1
      simp [Cell.okWide, ht, Cell.ok] at hval
    | _ => exact (List.cons.inj h1).1
  subst hv
  refine ⟨xs, ?_, h4⟩
  have := gen_rd (w := w) (C := 1) (f := fun z : Bool => [Value.bool z]) (fun _ => rfl) (by decide) (c := c) (h6.imp_right fun ⟨b, o, e, hc⟩ => ⟨b, o, e, fun i x hx => by obtain ⟨vs, _, e, hcell⟩ := hc i x hx; rw [← e]; exact hcell⟩)
  rwa [flat_bool] at this
end

theorem rgood_is {S : Nat → Prop} {v1 v2 v3 : Value} {P : PPr} {b : Bool} (hb : prG P = b) (w : World) (h : prAt S w v1 v2 v3 P) (hF : prF P) :
    Calls Tryd.prog 11 #[.agg #[v1, v2, v3]] w fun e w' => e = .returned (.bool b) ∧ Below w.heap.size w w' := hb ▸ rgood_any v1 v2 v3 P w h hF
theorem of_is {o a b : Int} (hg : opGood o a b = true) (w : World) :
    Calls Tryd.prog 19 #[.agg #[.int .i64 o, .int .i64 a, .int .i64 b]] w fun e w' => e = .returned (.agg #[.int .i64 (insT (o, a, b)), .int .i64 (insLv (o, a, b))]) ∧ Below w.heap.size w w' := by
  refine (refOf_any o a b w).mono ?_
  rintro e w' ⟨x, y, he, h, hb⟩
  obtain ⟨hx, hy⟩ := h hg
  refine ⟨?_, hb⟩
  rw [he, hx, hy]
  unfold insT insLv effT effL
  rw [if_pos hg, if_pos hg]
theorem check_ok {P : PPr} {g : Int} (h : checkP P g = 0) : prG P = true ∧ rightsP P = true := by
  unfold checkP at h
  split at h
  · assumption
  · cases h
theorem rights_some {P : PPr} {i : Nat} {f : PFn} (hg : prG P = true) (hr : rightsP P = true) (hi : P.1[i]? = some f) : ∃ l, statesP P i = some l := by
  have hlt := (List.getElem?_eq_some_iff.1 hi).1
  have := allI_at (g := fun _ f => (rightP P f).isSome) hr hi
  unfold statesP
  rw [if_pos ⟨hg, by omega, by omega⟩, Int.toNat_natCast, List.getD_eq_getElem?_getD, hi]
  exact Option.isSome_iff_exists.1 this

/-! ## One step -/
def FlAt (l : List PSt) (a : Nat) (s : PSt) : Prop := stAt l a = s ∧ a < l.length ∧ 0 ≤ s.1 ∧ s.1 ≤ 100 ∧ 0 ≤ s.2 ∧ s.2 ≤ 10
theorem flAt_of {c : List PIns} {l : List PSt} (F : FlowP c l) {a : Nat} {s : PSt} (h : stAt l a = s) (hs : sOk s = true) : FlAt l a s := by
  have hne : stAt l a ≠ stNo := by rw [h]; exact sOk_no hs
  have hlt := stAt_lt hne
  rcases F.bd _ (stAt_mem hlt) with e | e
  · exact absurd e hne
  · rw [h] at e; exact ⟨h, hlt, e⟩
theorem flow_step {c : List PIns} {l : List PSt} (F : FlowP c l) {a : Nat} {s : PSt} (h : FlAt l a s) {p : PIns} (hp : c[a]? = some p) :
    insT p ≤ s.1 ∧ endOk p s = true ∧ ∀ q ∈ succP p a s, FlAt l q.1 q.2 := by
  obtain ⟨hs, hlt, h1, h2, h3, h4⟩ := h
  have hne : stAt l a ≠ stNo := by
    rw [hs]; rintro rfl; simp [stNo] at h1
  obtain ⟨d1, d2⟩ := F.done a hne
  have hpa : insAt c a = p := by unfold insAt; rw [List.getD_eq_getElem?_getD, hp]; rfl
  rw [hpa, hs] at d1 d2
  unfold locOk at d1
  rw [Bool.and_eq_true, decide_eq_true_eq] at d1
  refine ⟨d1.1, d1.2, fun q hq => ?_⟩
  obtain ⟨x, y, z⟩ := d2 q hq
  exact flAt_of F z y
theorem ret_eff {o a b : Int} (hg : opGood o a b = true) : (o = 9 → insT (o, a, b) = 1 ∧ insLv (o, a, b) = 0) ∧ (o = 8 → insT (o, a, b) = 2 ∧ insLv (o, a, b) = 0) := by
  have e : insT (o, a, b) = tkP o a b ∧ insLv (o, a, b) = lvP o a := by
    unfold insT insLv effT effL; rw [if_pos hg, if_pos hg]; exact ⟨rfl, rfl⟩
  rw [e.1, e.2]
  constructor
  · rintro rfl
    have hr : rowAtP 9 a = opT.getD 9 rowZ := row_plain 9 a (by decide)
    unfold tkP lvP
    rw [hr]
    exact ⟨rfl, rfl⟩
  · rintro rfl
    have hr : rowAtP 8 a = opT.getD 8 rowZ := row_plain 8 a (by decide)
    unfold tkP lvP
    rw [hr]
    exact ⟨rfl, rfl⟩
end Go.Proofs.YtlfbfnkmbceejaaDoor
