/-
  A heap's objects as plain data: the semispace's words, what they parse to.
  Conditions: as each states.
-/
import Derived.Test.YtnjpjhlodamanaaObM
import Derived.Test.YtnjpjhlodamanaaObI
namespace Go.Proofs.Ytnjpjhlodamanaa
open Go.ChangeShapes Go.WideShapes Go.ChangeAt Go.RowKit
set_option linter.unusedVariables false
set_option linter.unusedSimpArgs false

def Ar.semi (A : Ar) (base half space top : Int) : List Int := ((A.region base).drop (space * half).toNat).take top.toNat
def Ar.objs (A : Ar) (base half space top : Int) : Option (List Ob) :=
  if A.liesB base half space top then
    match parse (A.semi base half space top).length (A.semi base half space top) with
    | some obs => if fieldsOk (space * half) obs then some obs else none
    | none => none
  else none

theorem lies_nums {A : Ar} {base half space top : Int} (h : A.liesB base half space top = true) : 8 ≤ half ∧ half ≤ 2000 ∧ 0 ≤ space ∧ space ≤ 1 ∧ 0 ≤ top ∧ top ≤ half ∧ 0 ≤ space * half ∧ space * half ≤ 2000 ∧ space * half + half ≤ 2 * half := by
  simp only [Ar.liesB, Bool.and_eq_true] at h
  obtain ⟨d1, d2, d3, d4, d5, d6⟩ := of_decide_eq_true h.1.1
  have h3 : space = 0 ∨ space = 1 := by omega
  rcases h3 with rfl | rfl <;> omega
theorem lies_find {A : Ar} {base half space top : Int} (h : A.liesB base half space top = true) : A.find base = some (2 * half).toNat := by
  have hn := lies_nums h
  simp only [Ar.liesB, Bool.and_eq_true, Bool.not_eq_true'] at h
  obtain ⟨⟨_, h1⟩, h2⟩ := h
  unfold Ar.inB at h1 h2
  split at h1
  · rename_i n hf
    rw [hf] at h2
    simp only [decide_eq_true_eq, decide_eq_false_iff_not] at h1 h2
    rw [hf]
    congr 1
    omega
  · cases h1
theorem semi_length {A : Ar} (ok : A.Ok) {base half space top : Int} (h : A.liesB base half space top = true) : (A.semi base half space top).length = top.toNat := by
  have hn := lies_nums h
  have hf := lies_find h
  have hb := ok.bound hf
  unfold Ar.semi Ar.region
  rw [hf]
  simp only [List.length_take, List.length_drop]
  omega
theorem semi_get {A : Ar} (ok : A.Ok) {base half space top : Int} (h : A.liesB base half space top = true) (i : Nat) (hi : i < top.toNat) : (A.semi base half space top)[i]? = some (A.getW base (space * half + i)) := by
  have hn := lies_nums h
  have hf := lies_find h
  have hb := ok.bound hf
  have hin : A.inB base (space * half + i) = true := by
    unfold Ar.inB
    rw [hf]
    exact decide_eq_true (by omega)
  unfold Ar.semi Ar.region Ar.getW
  rw [hf, hin]
  simp only [if_true]
  rw [List.getElem?_take, if_pos hi, List.getElem?_drop, List.getElem?_take, if_pos (by omega), List.getElem?_drop, List.getD_eq_getElem?_getD]
  rw [show base.toNat + ((space * half).toNat + i) = (base + (space * half + i)).toNat by omega, List.getElem?_eq_getElem (by omega)]
  rfl
theorem Ar.Ok.fit {A : Ar} (ok : A.Ok) : ∀ x ∈ A.ws, fitW x := by
  intro x hx
  have := ok.word x hx
  have := bounds_u64 this
  exact ⟨this.1, by have := this.2; omega⟩
theorem semi_fit {A : Ar} (ok : A.Ok) (base half space top : Int) : ∀ x ∈ A.semi base half space top, fitW x := by
  intro x hx
  unfold Ar.semi Ar.region at hx
  have h1 := List.mem_of_mem_drop (List.mem_of_mem_take hx)
  split at h1
  · exact ok.fit x (List.mem_of_mem_drop (List.mem_of_mem_take h1))
  · cases h1
theorem getW_fit {A : Ar} (ok : A.Ok) (k i : Int) : fitW (A.getW k i) := by
  unfold Ar.getW
  split
  · rename_i hi
    have hb := ok.inB hi
    rw [List.getD_eq_getElem?_getD, List.getElem?_eq_getElem (by omega)]
    exact ok.fit _ (List.getElem_mem _)
  · exact ⟨by decide, by decide⟩

/-! parsing on from what is done -/
theorem parse_behind : ∀ (done : List Ob) (n : Nat) (rest : List Int) (obs : List Ob), AllOk done → parse n (flat done ++ rest) = some obs → ∃ m obs', parse m rest = some obs'
  | [], n, rest, obs, _, h => ⟨n, obs, by simpa [flat] using h⟩
  | o :: done, n, rest, obs, hok, h => by
    have hd := decode_lay (hok o (by simp)).1 (flat done ++ rest)
    have hw := o.words_pos
    rw [flat_cons, List.append_assoc] at h
    have hne : o.lay ++ (flat done ++ rest) = o.head :: (o.body ++ (flat done ++ rest)) := rfl
    cases n with
    | zero => rw [hne] at h; cases h
    | succ n =>
      rw [hne, parse, ← hne, hd] at h
      · simp only [Option.map_eq_some_iff] at h
        obtain ⟨os, hp, _⟩ := h
        rw [List.drop_append_of_le_length (by rw [o.lay_length]; omega), List.drop_eq_nil_of_le (by rw [o.lay_length]; omega), List.nil_append] at hp
        exact parse_behind done n rest os (fun p hp => hok p (by simp [hp])) hp
      · intro h0; cases h0
theorem parse_stop {done : List Ob} {x : Int} {r : List Int} (hok : AllOk done) (hd : decode (x :: r) = none) (n : Nat) : parse n (flat done ++ x :: r) = none := by
  cases hp : parse n (flat done ++ x :: r) with
  | none => rfl
  | some obs =>
    obtain ⟨m, obs', h⟩ := parse_behind done n _ obs hok hp
    cases m with
    | zero => cases h
    | succ m =>
      rw [parse, hd] at h
      · cases h
      · intro h0; cases h0
theorem marks_append (a b : List Ob) : marks (a ++ b) = marks a ++ marks b := by
  induction a with
  | nil => rfl
  | cons o a ih => simp [marks, ih]
/-- One mark more. -/
theorem marks_step (done : List Ob) (o : Ob) (N i : Nat) (hi : i = (flat done).length) (hN : i + o.words ≤ N) :
    (marks done ++ List.replicate (N - i) false).set i true = marks (done ++ [o]) ++ List.replicate (N - (i + o.words)) false := by
  have hl := marks_length done
  have hw : o.words = o.long + 1 := by unfold Ob.words; omega
  have e : List.replicate (N - i) false = false :: (List.replicate o.long false ++ List.replicate (N - (i + o.words)) false) := by
    rw [← List.replicate_append_replicate.symm, ← List.replicate_succ]
    congr 1
    omega
  rw [e, List.set_append, if_neg (by omega), show i - (marks done).length = 0 by omega, List.set_cons_zero, marks_append]
  simp [marks]
theorem objAt_lt {obs : List Ob} {i : Nat} {o : Ob} (h : objAt obs i = some o) : i < (flat obs).length := by
  obtain ⟨_, _, h2⟩ := objAt_words h
  have := o.words_pos
  omega
theorem marks_getD (obs : List Ob) (i : Nat) : (marks obs).getD i false = (objAt obs i).isSome := by
  by_cases h : i < (flat obs).length
  · rw [List.getD_eq_getElem?_getD, marks_get obs i h]; rfl
  · rw [List.getD_eq_getElem?_getD, List.getElem?_eq_none (by rw [marks_length]; omega)]
    cases ho : objAt obs i with
    | none => rfl
    | some o => exact absurd (objAt_lt ho) h
theorem findI_marks (first : Int) (obs : List Ob) (x : Int) : findI first (marks obs) x = refers first obs x := by
  unfold findI refers
  rw [marks_getD]
theorem fieldB_marks (first : Int) (obs : List Ob) (x : Int) : fieldB first (marks obs) x = fieldOk first obs x := by
  unfold fieldB fieldOk
  rw [findI_marks]
theorem mem_objAt {obs : List Ob} {o : Ob} (h : o ∈ obs) : ∃ i, objAt obs i = some o := by
  obtain ⟨a, b, rfl⟩ := List.append_of_mem h
  exact ⟨_, objAt_here a b o⟩
theorem fieldsOk_of {first : Int} {obs : List Ob} (h : ∀ j o, j < (flat obs).length → objAt obs j = some o → o.fs.all (fieldB first (marks obs)) = true) : fieldsOk first obs = true := by
  unfold fieldsOk
  rw [List.all_eq_true]
  intro o ho
  obtain ⟨i, hi⟩ := mem_objAt ho
  have := h i o (objAt_lt hi) hi
  rw [List.all_eq_true] at this ⊢
  intro x hx
  rw [← fieldB_marks]
  exact this x hx
theorem fieldsOk_no {first : Int} {obs : List Ob} {j : Nat} {o : Ob} (h : objAt obs j = some o) (hf : o.fs.all (fieldB first (marks obs)) = false) : fieldsOk first obs = false := by
  unfold fieldsOk
  rw [List.all_eq_false] at hf ⊢
  obtain ⟨x, hx, hn⟩ := hf
  refine ⟨o, objAt_mem obs j o h, ?_⟩
  rw [fieldB_marks] at hn
  intro ha
  rw [List.all_eq_true] at ha
  exact hn (ha x hx)
end Go.Proofs.Ytnjpjhlodamanaa
