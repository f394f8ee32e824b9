/-
  What a Set makes of a heap's objects, as plain data.
  Conditions: as each states.
-/
import Derived.Test.YtnjpjhlodamanaaGreatDoorObjs
namespace Go.Proofs.YtnjpjhlodamanaaGreatDoor
open Go.ChangeShapes Go.WideShapes Go.ChangeAt Go.RowKit
set_option linter.unusedVariables false
set_option linter.unusedSimpArgs false
set_option maxRecDepth 100000

def Ob.setF (o : Ob) (i : Nat) (v : Int) : Ob := { o with fs := o.fs.set i v }
theorem Ob.setF_size (o : Ob) (i : Nat) (v : Int) : (o.setF i v).size = o.size := by simp [Ob.setF, Ob.size]
theorem Ob.setF_long (o : Ob) (i : Nat) (v : Int) : (o.setF i v).long = o.long := by unfold Ob.long; rw [Ob.setF_size]; rfl
theorem Ob.setF_words (o : Ob) (i : Nat) (v : Int) : (o.setF i v).words = o.words := by unfold Ob.words; rw [Ob.setF_long]
theorem Ob.setF_may (o : Ob) (i : Nat) (v : Int) : (o.setF i v).may = o.may := by
  unfold Ob.may
  rw [Ob.setF_size]
  simp [Ob.setF]
theorem Ob.setF_lay {o : Ob} (hm : o.may = true) {i : Nat} (hi : i < o.fs.length) (v : Int) : (o.setF i v).lay = o.lay.set (1 + i) v := by
  have hk : o.kind ≠ 2 := by
    intro hk
    rw [Ob.fs_nil hm hk] at hi
    simp at hi
  have e1 : (o.setF i v).head = o.head := by unfold Ob.head; rw [Ob.setF_size]; rfl
  have e2 : (o.setF i v).body = o.body.set i v := by
    unfold Ob.body
    rw [if_neg hk]
    show (if o.kind = 2 then _ else _) = _
    rw [if_neg hk]
    rfl
  unfold Ob.lay
  rw [e1, e2, Nat.add_comm 1 i, List.set_cons_succ]

def setAll (obs : List Ob) (m i : Nat) (v : Int) : List Ob := match obs with
  | [] => []
  | o :: os => if m = 0 then o.setF i v :: os else o :: setAll os (m - o.words) i v

theorem setAll_split : ∀ (a : List Ob) (o : Ob) (b : List Ob) (i : Nat) (v : Int), setAll (a ++ o :: b) (flat a).length i v = a ++ o.setF i v :: b
  | [], o, b, i, v => by simp [flat, setAll]
  | p :: a, o, b, i, v => by
    have hw := p.words_pos
    have e : (flat (p :: a)).length - p.words = (flat a).length := by rw [flat_cons, List.length_append, p.lay_length]; omega
    rw [List.cons_append, setAll, if_neg (by rw [flat_cons, List.length_append, p.lay_length]; omega), e, setAll_split a o b i v]
    rfl

theorem marks_setAll (a : List Ob) (o : Ob) (b : List Ob) (i : Nat) (v : Int) : marks (a ++ o.setF i v :: b) = marks (a ++ o :: b) := by
  rw [marks_append, marks_append]
  simp only [marks, Ob.setF_long]
theorem refers_marks {first : Int} {obs os : List Ob} (h : marks obs = marks os) (x : Int) : refers first obs x = refers first os x := by
  rw [← findI_marks, ← findI_marks, h]
theorem fieldOk_marks {first : Int} {obs os : List Ob} (h : marks obs = marks os) (x : Int) : fieldOk first obs x = fieldOk first os x := by
  unfold fieldOk
  rw [refers_marks h]

theorem objs_set {A : Ar} (ok : A.Ok) {base half space top v : Int} {obs : List Ob} {m i : Nat} {o : Ob} (ho : A.objs base half space top = some obs) (hm : objAt obs m = some o) (hi : i < o.fs.length) (hv : fieldOk (space * half) obs v = true) (hvf : fitW v) :
    (A.set base (space * half + (m : Int) + 1 + (i : Int)) v).objs base half space top = some (setAll obs m i v) := by
  obtain ⟨h1, h2, h3, h4⟩ := objs_ok ok ho
  obtain ⟨a, b, rfl, hl⟩ := objAt_flat obs m o hm
  have hmay := (h1 o (objAt_mem _ m o hm)).1
  have hn := lies_nums h4
  have hf := lies_find h4
  have hsl := semi_length ok h4
  rw [h3] at hsl
  have hk : o.kind ≠ 2 := by
    intro hk
    rw [Ob.fs_nil hmay hk] at hi
    simp at hi
  have hll : o.lay.length = 1 + o.fs.length := by
    rw [o.lay_length]
    unfold Ob.words Ob.long longH Ob.size sizeH
    simp [hk]
  have hfl : (flat (a ++ o :: b)).length = m + (1 + o.fs.length) + (flat b).length := by
    rw [flat_append, flat_cons, List.length_append, List.length_append, hl, hll]
    omega
  have hin : A.inB base (space * half + (m : Int) + 1 + (i : Int)) = true := by
    unfold Ar.inB
    rw [hf]
    exact decide_eq_true (by omega)
  have hlies : (A.set base (space * half + (m : Int) + 1 + (i : Int)) v).liesB base half space top = true := by
    have e : ∀ k j, (A.set base (space * half + (m : Int) + 1 + (i : Int)) v).inB k j = A.inB k j := by
      intro k j
      unfold Ar.inB
      rw [Ar.find_set]
    have h5 := h4
    unfold Ar.liesB at h5 ⊢
    rw [e, e]
    exact h5
  have hsemi : (A.set base (space * half + (m : Int) + 1 + (i : Int)) v).semi base half space top = flat (a ++ o.setF i v :: b) := by
    have e1 : (space * half + (m : Int) + 1 + (i : Int)).toNat = (space * half).toNat + (m + (1 + i)) := by omega
    have e2 : (A.set base (space * half + (m : Int) + 1 + (i : Int)) v).semi base half space top = (A.semi base half space top).set (m + (1 + i)) v := by
      unfold Ar.semi
      rw [region_set ok hin, e1, List.drop_set, if_neg (by omega), List.take_set]
      congr 1
      omega
    rw [e2, h3, flat_append, flat_append, flat_cons, flat_cons, Ob.setF_lay hmay hi, List.set_append, if_neg (by omega), hl, show m + (1 + i) - m = 1 + i by omega, List.set_append, if_pos (by omega)]
  have hmk := marks_setAll a o b i v
  have hall : AllOk (a ++ o.setF i v :: b) := by
    intro q hq
    rcases List.mem_append.1 hq with hq | hq
    · exact h1 q (List.mem_append_left _ hq)
    · rcases List.mem_cons.1 hq with rfl | hq
      · refine ⟨by rw [Ob.setF_may]; exact hmay, fun x hx => ?_⟩
        rcases List.mem_or_eq_of_mem_set hx with hx | rfl
        · exact (h1 o (objAt_mem _ m o hm)).2 x hx
        · exact hvf
      · exact h1 q (List.mem_append_right _ (List.mem_cons_of_mem _ hq))
  have hfo : fieldsOk (space * half) (a ++ o.setF i v :: b) = true := by
    unfold fieldsOk at h2 ⊢
    rw [List.all_eq_true] at h2 ⊢
    intro q hq
    rw [List.all_eq_true]
    intro x hx
    rw [fieldOk_marks hmk]
    have old : ∀ p ∈ a ++ o :: b, ∀ y ∈ p.fs, fieldOk (space * half) (a ++ o :: b) y = true := by
      intro p hp y hy
      have := h2 p hp
      rw [List.all_eq_true] at this
      exact this y hy
    rcases List.mem_append.1 hq with hq | hq
    · exact old q (List.mem_append_left _ hq) x hx
    · rcases List.mem_cons.1 hq with rfl | hq
      · rcases List.mem_or_eq_of_mem_set hx with hx | rfl
        · exact old o (objAt_mem _ m o hm) x hx
        · exact hv
      · exact old q (List.mem_append_right _ (List.mem_cons_of_mem _ hq)) x hx
  have hset : setAll (a ++ o :: b) m i v = a ++ o.setF i v :: b := by rw [← hl]; exact setAll_split a o b i v
  unfold Ar.objs
  rw [if_pos hlies, hsemi, parse_flat _ _ hall (Nat.le_refl _), hset]
  simp only [hfo, if_true]
end Go.Proofs.YtnjpjhlodamanaaGreatDoor
