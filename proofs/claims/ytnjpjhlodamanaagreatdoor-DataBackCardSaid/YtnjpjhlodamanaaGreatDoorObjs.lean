/-
  What a Put and a Set make of a heap's objects, as plain data.
  Conditions: as each states.
-/
import Derived.Test.YtnjpjhlodamanaaGreatDoorObY
import Derived.Test.YtnjpjhlodamanaaGreatDoorLay
namespace Go.Proofs.YtnjpjhlodamanaaGreatDoor
open Go.ChangeShapes Go.WideShapes Go.ChangeAt Go.RowKit
set_option linter.unusedVariables false
set_option linter.unusedSimpArgs false
set_option maxRecDepth 100000

theorem region_length {A : Ar} (ok : A.Ok) {base : Int} {n : Nat} (hf : A.find base = some n) : (A.region base).length = n := by
  have hb := ok.bound hf
  unfold Ar.region
  rw [hf]
  simp only [List.length_take, List.length_drop]
  omega
theorem region_set {A : Ar} (ok : A.Ok) {base i : Int} (hi : A.inB base i = true) (x : Int) : (A.set base i x).region base = (A.region base).set i.toNat x := by
  have hb := ok.inB hi
  have hf : ∃ n, A.find base = some n := by
    unfold Ar.inB at hi
    split at hi
    · rename_i n h; exact ⟨n, h⟩
    · cases hi
  obtain ⟨n, hf⟩ := hf
  unfold Ar.region
  rw [Ar.find_set, hf]
  unfold Ar.set
  rw [if_pos hi]
  simp only
  rw [List.drop_set, if_neg (by omega), List.take_set]
  congr 1
  omega
theorem puts_ok {base : Int} : ∀ (l : List Int) {A : Ar} (at_ : Int), A.Ok → (∀ x ∈ l, fitW x) → (A.puts base at_ l).Ok
  | [], _, _, h, _ => h
  | x :: l, A, at_, h, hl => puts_ok l (at_ + 1) (h.set base at_ x (fitW_wf (hl x (by simp)))) fun y hy => hl y (by simp [hy])
theorem region_puts {base : Int} {n : Nat} : ∀ (l : List Int) {A : Ar} (at_ : Nat), A.Ok → A.find base = some n → at_ + l.length ≤ n → (∀ x ∈ l, fitW x) →
    (A.puts base (at_ : Int) l).region base = (A.region base).take at_ ++ l ++ (A.region base).drop (at_ + l.length)
  | [], A, at_, _, _, _, _ => by simp [Ar.puts]
  | x :: l, A, at_, ok, hf, hn, hl => by
    simp only [List.length_cons] at hn
    have hi : A.inB base (at_ : Int) = true := by
      unfold Ar.inB
      rw [hf]
      exact decide_eq_true (by omega)
    have ok1 := ok.set base at_ x (fitW_wf (hl x (by simp)))
    have ih := region_puts l (A := A.set base at_ x) (at_ + 1) ok1 (by rw [Ar.find_set]; exact hf) (by omega) fun y hy => hl y (by simp [hy])
    have hrl := region_length ok hf
    have e : ((at_ : Int) + 1) = ((at_ + 1 : Nat) : Int) := by simp
    rw [Ar.puts, e, ih, region_set ok hi, Int.toNat_natCast]
    have h1 : ((A.region base).set at_ x).take (at_ + 1) = (A.region base).take at_ ++ [x] := by
      rw [List.take_succ_eq_append_getElem (by simp; omega)]
      simp [List.take_set_of_le]
    have h2 : ((A.region base).set at_ x).drop (at_ + 1 + l.length) = (A.region base).drop (at_ + (x :: l).length) := by
      rw [List.drop_set_of_lt (by omega)]
      congr 1
      simp only [List.length_cons]
      omega
    rw [h1, h2]
    simp

theorem semi_puts {A : Ar} (ok : A.Ok) {base half space top : Int} {obs : List Ob} (ho : A.objs base half space top = some obs) (l : List Int) (hl : ∀ x ∈ l, fitW x) (hr : (l.length : Int) ≤ half - top) :
    (A.puts base (space * half + top) l).semi base half space (top + (l.length : Int)) = A.semi base half space top ++ l ∧ (A.puts base (space * half + top) l).liesB base half space (top + (l.length : Int)) = true := by
  have hlies := (objs_ok ok ho).2.2.2
  have hn := lies_nums hlies
  have hf := lies_find hlies
  obtain ⟨at_, hat⟩ := Int.eq_ofNat_of_zero_le (a := space * half + top) (by omega)
  have hrl := region_length ok hf
  have hrp := region_puts l at_ ok hf (by omega) hl
  rw [← hat] at hrp
  constructor
  · unfold Ar.semi
    rw [hrp]
    have e1 : (top + (l.length : Int)).toNat = top.toNat + l.length := by omega
    have e2 : at_ = (space * half).toNat + top.toNat := by omega
    rw [e1, e2, List.append_assoc, List.drop_append_of_le_length (by rw [List.length_take]; omega)]
    have h3 : (List.take ((space * half).toNat + top.toNat) (A.region base)).drop (space * half).toNat = ((A.region base).drop (space * half).toNat).take top.toNat := by
      rw [List.drop_take]
      congr 1
      omega
    have h4 : (((A.region base).drop (space * half).toNat).take top.toNat).length = top.toNat := by
      rw [List.length_take, List.length_drop]
      omega
    rw [h3, List.take_append, h4, List.take_of_length_le (by rw [h4]; omega)]
    congr 1
    rw [show top.toNat + l.length - top.toNat = l.length by omega, List.take_append_of_le_length (Nat.le_refl _), List.take_of_length_le (Nat.le_refl _)]
  · have h5 := hlies
    simp only [Ar.liesB, Bool.and_eq_true] at h5 ⊢
    rw [puts_inB, puts_inB]
    refine ⟨⟨?_, h5.1.2⟩, h5.2⟩
    unfold numsB
    exact decide_eq_true (by omega)

theorem objAt_append {obs : List Ob} (os : List Ob) {i : Nat} {o : Ob} (h : objAt obs i = some o) : objAt (obs ++ os) i = some o := by
  obtain ⟨a, b, rfl, hl⟩ := objAt_flat obs i o h
  rw [List.append_assoc, List.cons_append, ← hl]
  exact objAt_here a (b ++ os) o
theorem refers_append {first : Int} {obs : List Ob} (os : List Ob) {x : Int} {m : Nat} (h : refers first obs x = some m) : refers first (obs ++ os) x = some m := by
  obtain ⟨o, ho⟩ := refers_some h
  unfold refers at h ⊢
  split at h
  · rename_i hc
    cases h
    simp only [Bool.and_eq_true] at hc
    rw [hc.1.1, hc.1.2, objAt_append os ho]
    rfl
  · cases h
theorem fieldOk_append {first : Int} {obs : List Ob} (os : List Ob) {x : Int} (h : fieldOk first obs x = true) : fieldOk first (obs ++ os) x = true := by
  unfold fieldOk at h ⊢
  rw [Bool.or_eq_true] at h ⊢
  rcases h with h | h
  · obtain ⟨m, hm⟩ := Option.isSome_iff_exists.1 h
    exact .inl (by rw [refers_append os hm]; rfl)
  · exact .inr h

theorem objs_put {A : Ar} (ok : A.Ok) {base half space top : Int} {obs : List Ob} {o : Ob} (ho : A.objs base half space top = some obs) (hok : A.putOk base half space top o = true) (hf : o.fit) :
    (A.puts base (space * half + top) o.lay).objs base half space (top + (o.words : Int)) = some (obs ++ [o]) := by
  obtain ⟨h1, h2, h3, h4⟩ := objs_ok ok ho
  unfold Ar.putOk at hok
  rw [ho] at hok
  simp only [Bool.and_eq_true, decide_eq_true_eq] at hok
  obtain ⟨hm, hfs, hr⟩ := hok
  have hlf := Ob.lay_fit hm hf
  obtain ⟨hs, hl⟩ := semi_puts ok ho o.lay hlf (by rw [o.lay_length]; omega)
  rw [o.lay_length] at hs hl
  have hall : AllOk (obs ++ [o]) := by
    intro q hq
    rcases List.mem_append.1 hq with hq | hq
    · exact h1 q hq
    · rw [List.mem_singleton] at hq
      subst hq
      exact ⟨hm, hf⟩
  have hfl : A.semi base half space top ++ o.lay = flat (obs ++ [o]) := by
    rw [h3, flat_append]
    simp [flat]
  have hfo : fieldsOk (space * half) (obs ++ [o]) = true := by
    unfold fieldsOk at h2 ⊢
    rw [List.all_append, Bool.and_eq_true]
    constructor
    · rw [List.all_eq_true] at h2 ⊢
      intro q hq
      have := h2 q hq
      rw [List.all_eq_true] at this ⊢
      exact fun x hx => fieldOk_append _ (this x hx)
    · rw [List.all_eq_true] at hfs
      simp only [List.all_cons, List.all_nil, Bool.and_true]
      rw [List.all_eq_true]
      exact fun x hx => fieldOk_append _ (hfs x hx)
  unfold Ar.objs
  rw [if_pos hl, hs, hfl, parse_flat _ _ hall (Nat.le_refl _)]
  simp only [hfo, if_true]
end Go.Proofs.YtnjpjhlodamanaaGreatDoor
