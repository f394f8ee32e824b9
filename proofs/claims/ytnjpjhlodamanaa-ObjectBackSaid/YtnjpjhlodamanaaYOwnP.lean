/-
  What a Put and a Set make of a heap's objects, as plain data.
  Conditions: as each states.
-/
import Derived.Test.YtnjpjhlodamanaaObY
import Derived.Test.YtnjpjhlodamanaaLay
import Derived.Test.YtnjpjhlodamanaaYWakO
import Derived.Test.YtnjpjhlodamanaaOwnO
import Derived.Test.YtnjpjhlodamanaaReA
namespace Go.Proofs.Ytnjpjhlodamanaa
set_option linter.unusedVariables false
set_option linter.unusedSimpArgs false
open Go.ChangeShapes Go.WideShapes Go.ChangeAt Go.RowKit
set_option maxRecDepth 100000

theorem region_length {A : Ar} (ok : A.Ok) {base : Int} {n : Nat} (hf : A.find base = some n) : (A.region base).length = n := by
  have hb := ok.bound hf
  unfold Ar.region
  rw [hf]
  simp only [List.length_take, List.length_drop]
  omega
theorem region_set {A : Ar} (ok : A.Ok) {base i : Int} (hi : A.inB base i = true) (x : Int) : (A.set base i x).region base = (A.region base).set i.toNat x := by
  have hb := ok.inB hi
  have hf : ∃ n, A.find base = some n := by
    unfold Ar.inB at hi
    split at hi
    · rename_i n h; exact ⟨n, h⟩
    · cases hi
  obtain ⟨n, hf⟩ := hf
  unfold Ar.region
  rw [Ar.find_set, hf]
  unfold Ar.set
  rw [if_pos hi]
  simp only
  rw [List.drop_set, if_neg (by omega), List.take_set]
  congr 1
  omega
theorem puts_ok {base : Int} : ∀ (l : List Int) {A : Ar} (at_ : Int), A.Ok → (∀ x ∈ l, fitW x) → (A.puts base at_ l).Ok
  | [], _, _, h, _ => h
  | x :: l, A, at_, h, hl => puts_ok l (at_ + 1) (h.set base at_ x (fitW_wf (hl x (by simp)))) fun y hy => hl y (by simp [hy])
theorem region_puts {base : Int} {n : Nat} : ∀ (l : List Int) {A : Ar} (at_ : Nat), A.Ok → A.find base = some n → at_ + l.length ≤ n → (∀ x ∈ l, fitW x) →
    (A.puts base (at_ : Int) l).region base = (A.region base).take at_ ++ l ++ (A.region base).drop (at_ + l.length)
  | [], A, at_, _, _, _, _ => by simp [Ar.puts]
  | x :: l, A, at_, ok, hf, hn, hl => by
    simp only [List.length_cons] at hn
    have hi : A.inB base (at_ : Int) = true := by
      unfold Ar.inB
      rw [hf]
      exact decide_eq_true (by omega)
    have ok1 := ok.set base at_ x (fitW_wf (hl x (by simp)))
    have ih := region_puts l (A := A.set base at_ x) (at_ + 1) ok1 (by rw [Ar.find_set]; exact hf) (by omega) fun y hy => hl y (by simp [hy])
    have hrl := region_length ok hf
    have e : ((at_ : Int) + 1) = ((at_ + 1 : Nat) : Int) := by simp
    rw [Ar.puts, e, ih, region_set ok hi, Int.toNat_natCast]
    have h1 : ((A.region base).set at_ x).take (at_ + 1) = (A.region base).take at_ ++ [x] := by
      rw [List.take_succ_eq_append_getElem (by simp; omega)]
      simp [List.take_set_of_le]
    have h2 : ((A.region base).set at_ x).drop (at_ + 1 + l.length) = (A.region base).drop (at_ + (x :: l).length) := by
      rw [List.drop_set_of_lt (by omega)]
      congr 1
      simp only [List.length_cons]
      omega
    rw [h1, h2]
    simp

theorem semi_puts {A : Ar} (ok : A.Ok) {base half space top : Int} {obs : List Ob} (ho : A.objs base half space top = some obs) (l : List Int) (hl : ∀ x ∈ l, fitW x) (hr : (l.length : Int) ≤ half - top) :
    (A.puts base (space * half + top) l).semi base half space (top + (l.length : Int)) = A.semi base half space top ++ l ∧ (A.puts base (space * half + top) l).liesB base half space (top + (l.length : Int)) = true := by
  have hlies := (objs_ok ok ho).2.2.2
  have hn := lies_nums hlies
  have hf := lies_find hlies
  obtain ⟨at_, hat⟩ := Int.eq_ofNat_of_zero_le (a := space * half + top) (by omega)
  have hrl := region_length ok hf
  have hrp := region_puts l at_ ok hf (by omega) hl
  rw [← hat] at hrp
  constructor
  · unfold Ar.semi
    rw [hrp]
    have e1 : (top + (l.length : Int)).toNat = top.toNat + l.length := by omega
    have e2 : at_ = (space * half).toNat + top.toNat := by omega
    rw [e1, e2, List.append_assoc, List.drop_append_of_le_length (by rw [List.length_take]; omega)]
    have h3 : (List.take ((space * half).toNat + top.toNat) (A.region base)).drop (space * half).toNat = ((A.region base).drop (space * half).toNat).take top.toNat := by
      rw [List.drop_take]
      congr 1
      omega
    have h4 : (((A.region base).drop (space * half).toNat).take top.toNat).length = top.toNat := by
      rw [List.length_take, List.length_drop]
      omega
    rw [h3, List.take_append, h4, List.take_of_length_le (by rw [h4]; omega)]
    congr 1
    rw [show top.toNat + l.length - top.toNat = l.length by omega, List.take_append_of_le_length (Nat.le_refl _), List.take_of_length_le (Nat.le_refl _)]
  · have h5 := hlies
    simp only [Ar.liesB, Bool.and_eq_true] at h5 ⊢
    rw [puts_inB, puts_inB]
    refine ⟨⟨?_, h5.1.2⟩, h5.2⟩
    unfold numsB
    exact decide_eq_true (by omega)

theorem objAt_append {obs : List Ob} (os : List Ob) {i : Nat} {o : Ob} (h : objAt obs i = some o) : objAt (obs ++ os) i = some o := by
  obtain ⟨a, b, rfl, hl⟩ := objAt_flat obs i o h
  rw [List.append_assoc, List.cons_append, ← hl]
  exact objAt_here a (b ++ os) o
theorem refers_append {first : Int} {obs : List Ob} (os : List Ob) {x : Int} {m : Nat} (h : refers first obs x = some m) : refers first (obs ++ os) x = some m := by
  obtain ⟨o, ho⟩ := refers_some h
  unfold refers at h ⊢
  split at h
  · rename_i hc
    cases h
    simp only [Bool.and_eq_true] at hc
    rw [hc.1.1, hc.1.2, objAt_append os ho]
    rfl
  · cases h
theorem fieldOk_append {first : Int} {obs : List Ob} (os : List Ob) {x : Int} (h : fieldOk first obs x = true) : fieldOk first (obs ++ os) x = true := by
  unfold fieldOk at h ⊢
  rw [Bool.or_eq_true] at h ⊢
  rcases h with h | h
  · obtain ⟨m, hm⟩ := Option.isSome_iff_exists.1 h
    exact .inl (by rw [refers_append os hm]; rfl)
  · exact .inr h

theorem objs_put {A : Ar} (ok : A.Ok) {base half space top : Int} {obs : List Ob} {o : Ob} (ho : A.objs base half space top = some obs) (hok : A.putOk base half space top o = true) (hf : o.fit) :
    (A.puts base (space * half + top) o.lay).objs base half space (top + (o.words : Int)) = some (obs ++ [o]) := by
  obtain ⟨h1, h2, h3, h4⟩ := objs_ok ok ho
  unfold Ar.putOk at hok
  rw [ho] at hok
  simp only [Bool.and_eq_true, decide_eq_true_eq] at hok
  obtain ⟨hm, hfs, hr⟩ := hok
  have hlf := Ob.lay_fit hm hf
  obtain ⟨hs, hl⟩ := semi_puts ok ho o.lay hlf (by rw [o.lay_length]; omega)
  rw [o.lay_length] at hs hl
  have hall : AllOk (obs ++ [o]) := by
    intro q hq
    rcases List.mem_append.1 hq with hq | hq
    · exact h1 q hq
    · rw [List.mem_singleton] at hq
      subst hq
      exact ⟨hm, hf⟩
  have hfl : A.semi base half space top ++ o.lay = flat (obs ++ [o]) := by
    rw [h3, flat_append]
    simp [flat]
  have hfo : fieldsOk (space * half) (obs ++ [o]) = true := by
    unfold fieldsOk at h2 ⊢
    rw [List.all_append, Bool.and_eq_true]
    constructor
    · rw [List.all_eq_true] at h2 ⊢
      intro q hq
      have := h2 q hq
      rw [List.all_eq_true] at this ⊢
      exact fun x hx => fieldOk_append _ (this x hx)
    · rw [List.all_eq_true] at hfs
      simp only [List.all_cons, List.all_nil, Bool.and_true]
      rw [List.all_eq_true]
      exact fun x hx => fieldOk_append _ (hfs x hx)
  unfold Ar.objs
  rw [if_pos hl, hs, hfl, parse_flat _ _ hall (Nat.le_refl _)]
  simp only [hfo, if_true]
end Go.Proofs.Ytnjpjhlodamanaa

/-
  What a Set makes of a heap's objects, as plain data.
  Conditions: as each states.
-/
namespace Go.Proofs.Ytnjpjhlodamanaa
set_option linter.unusedVariables false
set_option linter.unusedSimpArgs false
open Go.ChangeShapes Go.WideShapes Go.ChangeAt Go.RowKit
set_option maxRecDepth 100000

def Ob.setF (o : Ob) (i : Nat) (v : Int) : Ob := { o with fs := o.fs.set i v }
theorem Ob.setF_size (o : Ob) (i : Nat) (v : Int) : (o.setF i v).size = o.size := by simp [Ob.setF, Ob.size]
theorem Ob.setF_long (o : Ob) (i : Nat) (v : Int) : (o.setF i v).long = o.long := by unfold Ob.long; rw [Ob.setF_size]; rfl
theorem Ob.setF_words (o : Ob) (i : Nat) (v : Int) : (o.setF i v).words = o.words := by unfold Ob.words; rw [Ob.setF_long]
theorem Ob.setF_may (o : Ob) (i : Nat) (v : Int) : (o.setF i v).may = o.may := by
  unfold Ob.may
  rw [Ob.setF_size]
  simp [Ob.setF]
theorem Ob.setF_lay {o : Ob} (hm : o.may = true) {i : Nat} (hi : i < o.fs.length) (v : Int) : (o.setF i v).lay = o.lay.set (1 + i) v := by
  have hk : o.kind ≠ 2 := by
    intro hk
    rw [Ob.fs_nil hm hk] at hi
    simp at hi
  have e1 : (o.setF i v).head = o.head := by unfold Ob.head; rw [Ob.setF_size]; rfl
  have e2 : (o.setF i v).body = o.body.set i v := by
    unfold Ob.body
    rw [if_neg hk]
    show (if o.kind = 2 then _ else _) = _
    rw [if_neg hk]
    rfl
  unfold Ob.lay
  rw [e1, e2, Nat.add_comm 1 i, List.set_cons_succ]

def setAll (obs : List Ob) (m i : Nat) (v : Int) : List Ob := match obs with
  | [] => []
  | o :: os => if m = 0 then o.setF i v :: os else o :: setAll os (m - o.words) i v

theorem setAll_split : ∀ (a : List Ob) (o : Ob) (b : List Ob) (i : Nat) (v : Int), setAll (a ++ o :: b) (flat a).length i v = a ++ o.setF i v :: b
  | [], o, b, i, v => by simp [flat, setAll]
  | p :: a, o, b, i, v => by
    have hw := p.words_pos
    have e : (flat (p :: a)).length - p.words = (flat a).length := by rw [flat_cons, List.length_append, p.lay_length]; omega
    rw [List.cons_append, setAll, if_neg (by rw [flat_cons, List.length_append, p.lay_length]; omega), e, setAll_split a o b i v]
    rfl

theorem marks_setAll (a : List Ob) (o : Ob) (b : List Ob) (i : Nat) (v : Int) : marks (a ++ o.setF i v :: b) = marks (a ++ o :: b) := by
  rw [marks_append, marks_append]
  simp only [marks, Ob.setF_long]
theorem refers_marks {first : Int} {obs os : List Ob} (h : marks obs = marks os) (x : Int) : refers first obs x = refers first os x := by
  rw [← findI_marks, ← findI_marks, h]
theorem fieldOk_marks {first : Int} {obs os : List Ob} (h : marks obs = marks os) (x : Int) : fieldOk first obs x = fieldOk first os x := by
  unfold fieldOk
  rw [refers_marks h]

theorem objs_set {A : Ar} (ok : A.Ok) {base half space top v : Int} {obs : List Ob} {m i : Nat} {o : Ob} (ho : A.objs base half space top = some obs) (hm : objAt obs m = some o) (hi : i < o.fs.length) (hv : fieldOk (space * half) obs v = true) (hvf : fitW v) :
    (A.set base (space * half + (m : Int) + 1 + (i : Int)) v).objs base half space top = some (setAll obs m i v) := by
  obtain ⟨h1, h2, h3, h4⟩ := objs_ok ok ho
  obtain ⟨a, b, rfl, hl⟩ := objAt_flat obs m o hm
  have hmay := (h1 o (objAt_mem _ m o hm)).1
  have hn := lies_nums h4
  have hf := lies_find h4
  have hsl := semi_length ok h4
  rw [h3] at hsl
  have hk : o.kind ≠ 2 := by
    intro hk
    rw [Ob.fs_nil hmay hk] at hi
    simp at hi
  have hll : o.lay.length = 1 + o.fs.length := by
    rw [o.lay_length]
    unfold Ob.words Ob.long longH Ob.size sizeH
    simp [hk]
  have hfl : (flat (a ++ o :: b)).length = m + (1 + o.fs.length) + (flat b).length := by
    rw [flat_append, flat_cons, List.length_append, List.length_append, hl, hll]
    omega
  have hin : A.inB base (space * half + (m : Int) + 1 + (i : Int)) = true := by
    unfold Ar.inB
    rw [hf]
    exact decide_eq_true (by omega)
  have hlies : (A.set base (space * half + (m : Int) + 1 + (i : Int)) v).liesB base half space top = true := by
    have e : ∀ k j, (A.set base (space * half + (m : Int) + 1 + (i : Int)) v).inB k j = A.inB k j := by
      intro k j
      unfold Ar.inB
      rw [Ar.find_set]
    have h5 := h4
    unfold Ar.liesB at h5 ⊢
    rw [e, e]
    exact h5
  have hsemi : (A.set base (space * half + (m : Int) + 1 + (i : Int)) v).semi base half space top = flat (a ++ o.setF i v :: b) := by
    have e1 : (space * half + (m : Int) + 1 + (i : Int)).toNat = (space * half).toNat + (m + (1 + i)) := by omega
    have e2 : (A.set base (space * half + (m : Int) + 1 + (i : Int)) v).semi base half space top = (A.semi base half space top).set (m + (1 + i)) v := by
      unfold Ar.semi
      rw [region_set ok hin, e1, List.drop_set, if_neg (by omega), List.take_set]
      congr 1
      omega
    rw [e2, h3, flat_append, flat_append, flat_cons, flat_cons, Ob.setF_lay hmay hi, List.set_append, if_neg (by omega), hl, show m + (1 + i) - m = 1 + i by omega, List.set_append, if_pos (by omega)]
  have hmk := marks_setAll a o b i v
  have hall : AllOk (a ++ o.setF i v :: b) := by
    intro q hq
    rcases List.mem_append.1 hq with hq | hq
    · exact h1 q (List.mem_append_left _ hq)
    · rcases List.mem_cons.1 hq with rfl | hq
      · refine ⟨by rw [Ob.setF_may]; exact hmay, fun x hx => ?_⟩
        rcases List.mem_or_eq_of_mem_set hx with hx | rfl
        · exact (h1 o (objAt_mem _ m o hm)).2 x hx
        · exact hvf
      · exact h1 q (List.mem_append_right _ (List.mem_cons_of_mem _ hq))
  have hfo : fieldsOk (space * half) (a ++ o.setF i v :: b) = true := by
    unfold fieldsOk at h2 ⊢
    rw [List.all_eq_true] at h2 ⊢
    intro q hq
    rw [List.all_eq_true]
    intro x hx
    rw [fieldOk_marks hmk]
    have old : ∀ p ∈ a ++ o :: b, ∀ y ∈ p.fs, fieldOk (space * half) (a ++ o :: b) y = true := by
      intro p hp y hy
      have := h2 p hp
      rw [List.all_eq_true] at this
      exact this y hy
    rcases List.mem_append.1 hq with hq | hq
    · exact old q (List.mem_append_left _ hq) x hx
    · rcases List.mem_cons.1 hq with rfl | hq
      · rcases List.mem_or_eq_of_mem_set hx with hx | rfl
        · exact old o (objAt_mem _ m o hm) x hx
        · exact hv
      · exact old q (List.mem_append_right _ (List.mem_cons_of_mem _ hq)) x hx
  have hset : setAll (a ++ o :: b) m i v = a ++ o.setF i v :: b := by rw [← hl]; exact setAll_split a o b i v
  unfold Ar.objs
  rw [if_pos hlies, hsemi, parse_flat _ _ hall (Nat.le_refl _), hset]
  simp only [hfo, if_true]
end Go.Proofs.Ytnjpjhlodamanaa

/-
  A region that is all 0: a heap without objects; one object put into it.
  Conditions: as each states.
-/
namespace Go.Proofs.Ytnjpjhlodamanaa
set_option linter.unusedVariables false
set_option linter.unusedSimpArgs false
open Go.ChangeShapes Go.WideShapes Go.ChangeAt Go.RowKit
set_option maxRecDepth 100000

/-- An arena with a region of n words, all 0, at 3. -/
abbrev Ar.bare (n : Nat) : Ar := Ar.laid (List.replicate n 0)
theorem bare_find (n : Nat) : (Ar.bare n).find 3 = some (max 1 n) := by
  unfold Ar.bare Ar.laid
  rw [puts_find, List.length_replicate, laid0_find]
theorem empty_objs (h space : Nat) (h1 : 8 ≤ h) (h2 : h ≤ 2000) (hs : space ≤ 1) : (Ar.bare (2 * h)).objs 3 (h : Int) (space : Int) 0 = some [] := by
  have hl : (Ar.bare (2 * h)).liesB 3 (h : Int) (space : Int) 0 = true := by
    unfold Ar.liesB numsB Ar.inB
    rw [bare_find]
    simp only [Bool.and_eq_true, Bool.not_eq_true', decide_eq_true_eq, decide_eq_false_iff_not]
    omega
  have hs : (Ar.bare (2 * h)).semi 3 (h : Int) (space : Int) 0 = [] := by unfold Ar.semi; simp
  unfold Ar.objs
  rw [if_pos hl, hs]
  rfl

/-- A Block of numbers. -/
def ownO (xs : List Int) : Ob := ⟨1, 0, xs, []⟩
theorem ownO_words (xs : List Int) : (ownO xs).words = 1 + xs.length := rfl
theorem own_may (xs : List Int) (h1 : 1 ≤ xs.length) (h2 : xs.length ≤ 8) : (ownO xs).may = true := by
  unfold Ob.may hasH mayH Ob.size sizeH ownO
  simp
  omega
theorem own_put {A : Ar} {base half space top : Int} {obs : List Ob} (ho : A.objs base half space top = some obs) (xs : List Int) (h1 : 1 ≤ xs.length) (h2 : xs.length ≤ 8) (hr : top + 9 ≤ half) (hodd : ∀ x ∈ xs, x % 2 = 1) : A.putOk base half space top (ownO xs) = true := by
  unfold Ar.putOk
  rw [ho, own_may xs h1 h2]
  simp only [Bool.true_and, Bool.and_eq_true, decide_eq_true_eq, List.all_eq_true]
  refine ⟨fun x hx => ?_, by rw [ownO_words]; omega⟩
  unfold fieldOk wIs
  rw [decide_eq_true (hodd x hx), Bool.or_true]
theorem own_get {A : Ar} {base half top : Int} {o : Ob} (ho : A.objs base half 0 top = some [o]) : A.getOb base half 0 top 0 = some o := by
  unfold Ar.getOb
  rw [ho]
  have : refers (0 * half) [o] 0 = some 0 := by
    unfold refers
    simp [wOk, wAt, objAt]
  simp only [this]
  simp [objAt]
theorem own_places {A : Ar} {base half top : Int} {o : Ob} (ho : A.objs base half 0 top = some [o]) : A.placesI base half 0 top = [0] := by
  unfold Ar.placesI
  rw [ho]
  simp [starts]
end Go.Proofs.Ytnjpjhlodamanaa

/-
  Law ObjectOwn: its words, what it does where it does nothing.
  Conditions: as each states.
-/
namespace Go.Proofs.Ytnjpjhlodamanaa.objectOwn
set_option linter.unusedVariables false
set_option linter.unusedSimpArgs false
open Go.ChangeShapes Go.WideShapes Go.ChangeAt Go.RowKit
set_option maxRecDepth 100000

def sixty : List Int := List.replicate 60 0
def sixtyV : List Value := sixty.map (Value.int .u64)
theorem make_sixty (w : World) : (Instr.makeSlice 30 (.int .i64 60) (.int .i64 60)).run Try.prog w = .ok (.slice (some ⟨w.heap.size, 0, none⟩) 60 60) (w.alloc (.cells ⟨sixtyV⟩ 39)) := make_words 60 (by omega) w

/-- The world of the law: the boxes of its own, the arena. -/
structure Osl (w : World) (p p2 : Nat) (F : Nat → Prop) (A : Ar) (b1 : Nat) (W : World) : Prop where
  held : Held W p F A
  two : rowAt W b1 27 [.pointer (some ⟨p, 0, none⟩), .pointer (some ⟨p2, 0, none⟩)]
  n1 : ¬ F b1
  lowF : ∀ k, F k → w.heap.size ≤ k
  low : w.heap.size ≤ b1
  below : Below w.heap.size w W
theorem Osl.on {w W W' : World} {p p2 : Nat} {F : Nat → Prop} {A : Ar} {b1 : Nat} (h : Osl w p p2 F A b1 W) (hb : Below W.heap.size W W') : Osl w p p2 F A b1 W' :=
  ⟨h.held.below hb, h.two.below hb h.two.lt, h.n1, h.lowF, h.low, bl_call h.below hb⟩
theorem Osl.step {w W W' : World} {p p2 : Nat} {F : Nat → Prop} {A A' : Ar} {b1 : Nat} (h : Osl w p p2 F A b1 W) (hs : Step F F W W') (hA : Held W' p F A') : Osl w p p2 F A' b1 W' :=
  ⟨hA, h.two.upon hs.upon h.n1, h.n1, h.lowF, h.low, h.below.trans (hs.upon.belowB h.below.size h.lowF)⟩
/-- Stores into a block of the law's own. -/
theorem Osl.upon {w W W' : World} {p p2 : Nat} {F : Nat → Prop} {A : Ar} {b1 g : Nat} (h : Osl w p p2 F A b1 W) (hu : Upon (fun q => q = g) W W') (hg : w.heap.size ≤ g) (hF : ¬ F g) (h1 : b1 ≠ g) : Osl w p p2 F A b1 W' :=
  ⟨h.held.upon hu fun q hq e => hF (e ▸ hq), h.two.upon hu h1, h.n1, h.lowF, h.low, h.below.trans (hu.belowB h.below.size fun q e => by omega)⟩

/-- A row of the law's own, in no block of the arena. -/
def Ro (F : Nat → Prop) (b1 : Nat) (B b : Nat) (T : TypeId) (cs : List Value) (W : World) : Prop := rowAt W b T cs ∧ ¬ F b ∧ b ≠ b1 ∧ B ≤ b

/-- The world behind the Put: the heap's box, the row 'in' beside it. -/
structure Stt (w : World) (p p2 : Nat) (F : Nat → Prop) (A : Ar) (b1 bh bi : Nat) (T : Int) (ins : List Int) (W : World) : Prop where
  o : Osl w p p2 F A b1 W
  h : rowAt W bh 33 [.int .i64 3, .int .i64 30, .int .i64 0, .int .i64 T]
  i : rowAt W bi 39 (wordsL ins)
theorem Stt.on {w W W' : World} {p p2 : Nat} {F : Nat → Prop} {A : Ar} {b1 bh bi : Nat} {T : Int} {ins : List Int} (k : Stt w p p2 F A b1 bh bi T ins W) (hb : Below W.heap.size W W') : Stt w p p2 F A b1 bh bi T ins W' :=
  ⟨k.o.on hb, k.h.below hb k.h.lt, k.i.below hb k.i.lt⟩
theorem Stt.upon {w W W' : World} {p p2 : Nat} {F : Nat → Prop} {A : Ar} {b1 bh bi g : Nat} {T : Int} {ins : List Int} (k : Stt w p p2 F A b1 bh bi T ins W) (hu : Upon (fun q => q = g) W W') (hg : w.heap.size ≤ g) (hF : ¬ F g) (h1 : b1 ≠ g) (h2 : bh ≠ g) (h3 : bi ≠ g) : Stt w p p2 F A b1 bh bi T ins W' :=
  ⟨k.o.upon hu hg hF h1, k.h.upon hu h2, k.i.upon hu h3⟩
theorem readsOff_new {w : World} {F : Nat → Prop} {g : Nat} {T : TypeId} {xs : List Int} {rest : List Value} (h : rowAt w g T (wordsL xs ++ rest)) (hF : ¬ F g) : ReadsOff w F (some ⟨g, 0, none⟩) xs := fun j u hj => by
  refine ⟨g, 0, rfl, hF, ?_⟩
  rw [h.cell, Nat.zero_add, List.getElem?_append_left (List.getElem?_eq_some_iff.1 hj).1]
  exact hj
theorem row_set {w : World} {g : Nat} {T : TypeId} {ys : List Int} {rest : List Value} (h : rowAt w g T (wordsL ys ++ rest)) {j : Nat} (hj : j < ys.length) (z : Int) : rowAt (w.setCell ⟨g, j, none⟩ (.int .u64 z)) g T (wordsL (ys.set j z) ++ rest) := by
  have h2 := h.set j (.int .u64 z)
  rw [List.set_append_left _ _ (by simpa using hj), ← List.map_set] at h2
  exact h2
theorem row_get {w : World} {g : Nat} {T : TypeId} {ys : List Int} {rest : List Value} (h : rowAt w g T (wordsL ys ++ rest)) {j : Nat} (hj : j < ys.length) : w.cell? ⟨g, j, none⟩ = some (.int .u64 ys[j]) := by
  rw [h.cell, List.getElem?_append_left (by simpa using hj)]
  simp [hj]

def odd (x : Int) : Int := bits .or .u64 x 1
theorem odd_spec {x : Int} (h : fitW x) : fitW (odd x) ∧ odd x % 2 = 1 := by
  unfold odd
  by_cases he : x % 2 = 0
  · rw [or_one x h.1 h.2 he]
    unfold fitW at *
    omega
  · have h1 : x = (x - 1) + 1 := by omega
    have h2 := or_one (x - 1) (by unfold fitW at h; omega) (by unfold fitW at h; omega) (by omega)
    have h3 : bits .or .u64 x 1 = x := by
      obtain ⟨m, rfl⟩ : ∃ m : Nat, x = ((2 * m + 1 : Nat) : Int) := ⟨(x / 2).toNat, by unfold fitW at h; omega⟩
      have h4 := bits_or_u64_nat (2 * m + 1) 1 (by unfold fitW at h; omega) (by omega)
      have e1 : (2 * m ||| 1 : Nat) = 2 * m + 1 := (Nat.two_pow_add_eq_or_of_lt (i := 1) (b := 1) (by omega) m).symm
      have e2 : ((2 * m + 1) ||| 1 : Nat) = 2 * m + 1 := by rw [← e1, Nat.or_assoc]; simp
      rw [e2] at h4
      simpa using h4
    rw [h3]
    exact ⟨h, by omega⟩

theorem own_facts (ins : List Int) (h1 : 1 ≤ ins.length) (h2 : ins.length ≤ 8) (hodd : ∀ x ∈ ins, x % 2 = 1) (hfit : ∀ x ∈ ins, fitW x) (ok : (Ar.bare 60).Ok) :
    (Ar.bare 60).putOk 3 30 0 0 (ownO ins) = true ∧ ((Ar.bare 60).puts 3 (0 * 30 + 0) (ownO ins).lay).objs 3 30 0 (0 + (ownO ins).words) = some [ownO ins] := by
  have h0 : (Ar.bare 60).objs 3 30 0 0 = some [] := empty_objs 30 0 (by decide) (by decide) (by decide)
  have hp := own_put h0 ins h1 h2 (by decide) hodd
  exact ⟨hp, objs_put ok h0 hp hfit⟩

end Go.Proofs.Ytnjpjhlodamanaa.objectOwn
