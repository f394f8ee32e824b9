/-
  Appends onto a row of the call's own, of any slice: as an equation, as a step of a region that draws its order, as a step of a walk; slices cut at either end.
  Conditions: as each states.
-/
import Derived.Test.YtnjpjhlodamanaaMem
import Derived.Deep.RegionLaw
import Derived.Deep.AppendLies
import Derived.Test.YtnjpjhlodamanaaYObkA
import Derived.Test.YtnjpjhlodamanaaYOwnP
import Derived.Test.YtnjpjhlodamanaaRefMay
import Derived.Test.YtnjpjhlodamanaaReA
import Derived.Test.YtnjpjhlodamanaaArgs
namespace Go.Proofs.Ytnjpjhlodamanaa
set_option linter.unusedVariables false
set_option linter.unusedSimpArgs false
open Go.ChangeShapes Go.WideShapes Go.ChangeAt Go.RowKit
set_option maxRecDepth 100000

section
variable {P : Program}
/-- append onto a row of the call's own, of whatever slice: nil and empty ones too. -/
theorem run_append_w (w : World) (t ty : TypeId) (base : Nat) (e : TypeId) (i : TypeInfo) (z : Value) (size bytes : Nat) (ht : P.underlying t = some (.slice e)) (hi : P.info? e = some i) (hz : i.zero = some z)
    (hsize : i.size = size) (hby : i.bytes = bytes) (hzs : z.cells.size = size) (hsz : 0 < size)
    (v : Value) (n : Nat) (xs : List Value) (hown : w.ownsRow base e size v n xs)
    (xa : Option Addr) (m c : Nat) (news : List Value) (hl : news.length = m * size) (hsrc : m = 0 ∨ ∃ ad, xa = some ad ∧ ∀ j u, news[j]? = some u → w.cell? (ad.add j) = some u) (h1 : ∀ u ∈ news, u.oneCell' = true)
    (h63 : n + m ≤ maxLen) (hbytes : (n + m) * bytes ≤ 140737488355328) (hbase : base ≤ w.heap.size) :
    ∃ v' w', (Builtin.append_ #[t, t] ty #[v, .slice xa m c]).run P w = .ok v' w' ∧ w'.ownsRow base e size v' (n + m) (xs ++ news) ∧ w.grownBy w' v.ownBlock ∧ (v'.ownBlock = v.ownBlock ∨ v'.ownBlock = some w.heap.size) := by
  by_cases h0 : m = 0
  · subst h0
    have hn : news = [] := List.length_eq_zero_iff.1 (by simpa using hl)
    subst hn
    refine ⟨v, w, ?_, by simpa using hown, ⟨rfl, rfl, rfl, Nat.le_refl _, fun _ _ _ => rfl⟩, .inl rfl⟩
    have hf : (Builtin.firstCells i.size 0 (.slice xa 0 c)).run P w = .ok #[] w := by
      cases xa with
      | none => simp [Builtin.firstCells]
      | some b => exact run_firstCells_some w i.size 0 b 0 c [] (by simp) (by simp)
    rcases hown.2 with ⟨rfl, rfl⟩ | ⟨g, cap, cur, rfl, _, _, hnc, _⟩
    · simp [Builtin.append_, run_underlying ht, sizeOf, typeInfo, hi, Builtin.lenOf, hf]
    · simp [Builtin.append_, run_underlying ht, sizeOf, typeInfo, hi, Builtin.lenOf, hf, hnc, storeCells]
  · obtain ⟨ad, rfl, hc⟩ := hsrc.resolve_left h0
    obtain ⟨v', w', a, b, c', _, d⟩ := run_append_own_at w base t ty e i z size bytes ht hi hz hsize hby hzs hsz v n xs hown ad m c news hl hc h1 h63 hbytes hbase
    exact ⟨v', w', a, b, c', d⟩

theorem step_append_w {w : World} {ops : Array Oper} {o : Oper} {a : Act} {K : Act → World → Prop} {Q : Exit → Act → World → Prop} {E : Prop} (hgd : o.guard = none) (s x : Operand) (t : TypeId)
    (ho : o.op = .call { callee := .builtin .append, args := #[s, x], argTypes := #[t, t] })
    (base : Nat) (e : TypeId) (i : TypeInfo) (z : Value) (size bytes : Nat) (ht : P.underlying t = some (.slice e)) (hi : P.info? e = some i) (hz : i.zero = some z)
    (hsize : i.size = size) (hby : i.bytes = bytes) (hzs : z.cells.size = size) (hsz : 0 < size)
    (v : Value) (n : Nat) (xs : List Value) (hs : a.eval s = v) (hown : w.ownsRow base e size v n xs)
    (xa : Option Addr) (m c : Nat) (news : List Value) (hx : a.eval x = .slice xa m c) (hl : news.length = m * size) (hsrc : m = 0 ∨ ∃ ad, xa = some ad ∧ ∀ j u, news[j]? = some u → w.cell? (ad.add j) = some u) (h1 : ∀ u ∈ news, u.oneCell' = true)
    (h63 : n + m ≤ maxLen) (hbytes : (n + m) * bytes ≤ 140737488355328) (hbase : base ≤ w.heap.size)
    (h : ∀ v' w', w'.ownsRow base e size v' (n + m) (xs ++ news) → w.grownBy w' v.ownBlock → (v'.ownBlock = v.ownBlock ∨ v'.ownBlock = some w.heap.size) → K (a.put o.dst v') w') :
    if Region.wanted o (yielded ops a.tmps) = true then Oper.wp P o a w K Q else E := by
  have hw : Region.wanted o (yielded ops a.tmps) = true := by simp [Region.wanted, hgd]
  rw [if_pos hw]
  obtain ⟨v', w', hr, h2, h3, h4⟩ := run_append_w (P := P) w t o.type base e i z size bytes ht hi hz hsize hby hzs hsz v n xs hown xa m c news hl hsrc h1 h63 hbytes hbase
  unfold Oper.wp execOp
  simp only [ho, resolve, invoke, builtin, Sem.run_bind, Sem.run_pure, Result.andThen_ok, List.map_toArray, List.map_cons, List.map_nil, hs, hx, hr]
  exact h v' w' h2 h3 h4
theorem run_slice_to_w (t e : TypeId) (ht : P.underlying t = some (.slice e)) {i : TypeInfo} (hi : P.info? e = some i) (a : Option Addr) {n c k : Nat} (hk : k ≤ n) (hn : n ≤ c) (w : World) :
    (Instr.slice t (.slice a n c) none (some (.int .i64 (k : Int))) none).run P w = .ok (.slice a k c) w := by
  have h1 : (0 : Int) ≤ k ∧ (k : Int) ≤ c := by omega
  have h2 : (a.map fun x => x.add 0) = a := by cases a <;> simp [Addr.add]
  have h3 : k ≤ c := by omega
  simp [Instr.slice, Instr.sliceBounds, Instr.sliceBound, asIntOf, run_underlying ht, sizeOf, typeInfo, hi, h2, h3]
theorem run_slice_from_w (t e : TypeId) (ht : P.underlying t = some (.slice e)) {i : TypeInfo} (hi : P.info? e = some i) (a : Option Addr) {n c k : Nat} (hk : k ≤ n) (w : World) :
    (Instr.slice t (.slice a n c) (some (.int .i64 (k : Int))) none none).run P w = .ok (.slice (if c = k then a else a.map (·.add (k * i.size))) (n - k) (c - k)) w := by
  have h1 : (0 : Int) ≤ k ∧ (k : Int) ≤ n := by omega
  simp [Instr.slice, Instr.sliceBounds, Instr.sliceBound, asIntOf, run_underlying ht, sizeOf, typeInfo, hi, hk]

theorem wpList_append_w {w : World} {ops : Array Oper} {rest : List Oper} {o : Oper} {a : Act} {Q : Exit → Act → World → Prop} (hgd : o.guard = none) (s x : Operand) (t : TypeId)
    (ho : o.op = .call { callee := .builtin .append, args := #[s, x], argTypes := #[t, t] })
    (base : Nat) (e : TypeId) (i : TypeInfo) (z : Value) (size bytes : Nat) (ht : P.underlying t = some (.slice e)) (hi : P.info? e = some i) (hz : i.zero = some z)
    (hsize : i.size = size) (hby : i.bytes = bytes) (hzs : z.cells.size = size) (hsz : 0 < size)
    (v : Value) (n : Nat) (xs : List Value) (hs : a.eval s = v) (hown : w.ownsRow base e size v n xs)
    (xa : Option Addr) (m c : Nat) (news : List Value) (hx : a.eval x = .slice xa m c) (hl : news.length = m * size) (hsrc : m = 0 ∨ ∃ ad, xa = some ad ∧ ∀ j u, news[j]? = some u → w.cell? (ad.add j) = some u) (h1 : ∀ u ∈ news, u.oneCell' = true)
    (h63 : n + m ≤ maxLen) (hbytes : (n + m) * bytes ≤ 140737488355328) (hbase : base ≤ w.heap.size)
    (h : ∀ v' w', w'.ownsRow base e size v' (n + m) (xs ++ news) → w.grownBy w' v.ownBlock → (v'.ownBlock = v.ownBlock ∨ v'.ownBlock = some w.heap.size) → wpList P ops Q rest (a.put o.dst v') w') : wpList P ops Q (o :: rest) a w :=
  wpList_plain hgd fun K hK => by
    obtain ⟨v', w', hr, h2, h3, h4⟩ := run_append_w (P := P) w t o.type base e i z size bytes ht hi hz hsize hby hzs hsz v n xs hown xa m c news hl hsrc h1 h63 hbytes hbase
    unfold Oper.wp execOp
    simp only [ho, resolve, invoke, builtin, Sem.run_bind, Sem.run_pure, Result.andThen_ok, List.map_toArray, List.map_cons, List.map_nil, hs, hx, hr]
    exact hK _ _ (h v' w' h2 h3 h4)
end

end Go.Proofs.Ytnjpjhlodamanaa

/-
  What the law ObjectBack goes through: plain facts, and what stands in memory in its loops.
  Conditions: as each states.
-/
namespace Go.Proofs.Ytnjpjhlodamanaa
set_option linter.unusedVariables false
set_option linter.unusedSimpArgs false
open Go.ChangeShapes Go.WideShapes Go.ChangeAt Go.RowKit
open objectOwn (Osl odd odd_spec row_set)
set_option maxRecDepth 100000

/-! ## Plain -/

theorem placeO_two {x : Int} (h0 : 0 ≤ x) (h1 : x ≤ 4294967295) : wPlace x = 2 * x ∧ wIs (wPlace x) = false ∧ wOk (wPlace x) = true ∧ wAt (wPlace x) = x := by
  have e : wPlace x = 2 * x := by unfold wPlace; rw [if_neg (by omega)]
  rw [e]
  refine ⟨rfl, ?_, ?_, ?_⟩
  · unfold wIs; exact decide_eq_false (by omega)
  · unfold wOk; exact decide_eq_true (by omega)
  · unfold wAt; rw [if_pos (by omega)]; omega
theorem refersO_place {first : Int} {obs : List Ob} {p : Nat} {o : Ob} (h : objAt obs p = some o) (h0 : 0 ≤ first) (h1 : first + (p : Int) ≤ 4294967295) : refers first obs (wPlace (first + (p : Int))) = some p := by
  obtain ⟨_, _, e3, e4⟩ := placeO_two (x := first + (p : Int)) (by omega) h1
  unfold refers
  rw [e3, e4]
  have e5 : (first + (p : Int) - first).toNat = p := by omega
  rw [e5, h, decide_eq_true (by omega)]
  rfl
theorem objAtO_same {a : List Ob} {m i : Nat} {o : Ob} (v : Int) (h : objAt a m = some o) : objAt (setAll a m i v) m = some (o.setF i v) := by
  obtain ⟨b, c, rfl, hl⟩ := objAt_flat a m o h
  subst hl
  rw [setAll_split]
  exact objAt_here _ _ _
theorem objAtO_setF : ∀ (b c : List Ob) (o : Ob) (i : Nat) (v : Int) (p : Nat), p ≠ (flat b).length → objAt (b ++ o.setF i v :: c) p = objAt (b ++ o :: c) p
  | [], c, o, i, v, p, h => by
    simp only [List.nil_append, objAt]
    have hp : p ≠ 0 := by simpa [flat] using h
    rw [if_neg hp, if_neg hp, Ob.setF_words]
  | d :: b, c, o, i, v, p, h => by
    simp only [List.cons_append, objAt]
    by_cases h0 : p = 0
    · rw [if_pos h0, if_pos h0]
    · rw [if_neg h0, if_neg h0]
      by_cases h1 : p < d.words
      · rw [if_pos h1, if_pos h1]
      · rw [if_neg h1, if_neg h1]
        refine objAtO_setF b c o i v (p - d.words) ?_
        rw [flat_cons, List.length_append, d.lay_length] at h
        omega
theorem objAtO_other {a : List Ob} {m i p : Nat} {o : Ob} (v : Int) (h : objAt a m = some o) (hp : p ≠ m) : objAt (setAll a m i v) p = objAt a p := by
  obtain ⟨b, c, rfl, hl⟩ := objAt_flat a m o h
  subst hl
  rw [setAll_split]
  exact objAtO_setF b c o i v p hp

/-- What the law makes of a field. -/
def fixF (ws : List Int) (x : Int) : Int := if wIs x = false ∧ ws ≠ [] then ws.getD ((x % 64).toNat % ws.length) 0 else odd x
def fixTo (ws : List Int) (k : Nat) (fs : List Int) : List Int := (fs.take k).map (fixF ws) ++ fs.drop k
theorem fixTo_length (ws : List Int) (k : Nat) (fs : List Int) : (fixTo ws k fs).length = fs.length := by simp [fixTo]; omega
theorem fixTo_zero (ws fs : List Int) : fixTo ws 0 fs = fs := by simp [fixTo]
theorem fixTo_get (ws : List Int) {k : Nat} {fs : List Int} (hk : k < fs.length) : (fixTo ws k fs)[k]? = some fs[k] := by
  unfold fixTo
  rw [List.getElem?_append_right (by simp; omega)]
  simp [List.length_take, Nat.min_eq_left (Nat.le_of_lt hk), hk]
theorem fixTo_succ (ws : List Int) {k : Nat} {fs : List Int} (hk : k < fs.length) : (fixTo ws k fs).set k (fixF ws fs[k]) = fixTo ws (k + 1) fs := by
  unfold fixTo
  have hl : ((fs.take k).map (fixF ws)).length = k := by simp; omega
  rw [List.set_append_right _ _ (by omega), hl, Nat.sub_self, List.drop_eq_getElem_cons hk, List.set_cons_zero, List.take_add_one, List.getElem?_eq_getElem hk]
  simp only [List.map_append, Option.toList_some, List.map_cons, List.map_nil, List.append_assoc, List.cons_append, List.nil_append]
theorem fixTo_all (ws fs : List Int) : fixTo ws fs.length fs = fs.map (fixF ws) := by simp [fixTo]

/-- Where each word's object lies: no two at one place. -/
structure BkO (first : Int) (obs : List Ob) (ws : List Int) (qs : List ObE) : Prop where
  len : ws.length = qs.length
  ob : ∀ (i : Nat) (x : Int) (q : ObE), ws[i]? = some x → qs[i]? = some q → ∃ m : Nat, x = wPlace (first + (m : Int)) ∧ objAt obs m = some (obO q)
  inj : ∀ (i j : Nat) (x : Int), ws[i]? = some x → ws[j]? = some x → i = j
theorem BkO.nil (first : Int) (obs : List Ob) : BkO first obs [] [] := ⟨rfl, fun i x q h => by simp at h, fun i j x h => by simp at h⟩
section
variable {first : Int} {obs : List Ob} {ws : List Int} {qs : List ObE}
theorem BkO.word (h : BkO first obs ws qs) (h0 : 0 ≤ first) (h1 : first + ((flat obs).length : Int) ≤ 4294967295) {x : Int} (hx : x ∈ ws) : fitW x ∧ fieldOk first obs x = true ∧ ∃ m : Nat, m < (flat obs).length ∧ x = wPlace (first + (m : Int)) ∧ refers first obs x = some m := by
  obtain ⟨i, hi, he⟩ := List.mem_iff_getElem.1 hx
  obtain ⟨m, e, ho⟩ := h.ob i x _ (by rw [List.getElem?_eq_getElem hi, he]) (List.getElem?_eq_getElem (by rw [← h.len]; exact hi))
  have hm := objAt_lt ho
  have hr := refersO_place (first := first) ho h0 (by omega)
  rw [← e] at hr
  refine ⟨?_, by unfold fieldOk; rw [hr]; rfl, m, hm, e, hr⟩
  rw [e, (placeO_two (x := first + (m : Int)) (by omega) (by omega)).1]
  constructor <;> omega
theorem BkO.fix (h : BkO first obs ws qs) (h0 : 0 ≤ first) (h1 : first + ((flat obs).length : Int) ≤ 4294967295) {x : Int} (hx : fitW x) : fitW (fixF ws x) ∧ fieldOk first obs (fixF ws x) = true := by
  unfold fixF
  split
  · rename_i hc
    have hl : 0 < ws.length := List.length_pos_iff.2 hc.2
    have hi := Nat.mod_lt (x % 64).toNat hl
    rw [List.getD_eq_getElem?_getD, List.getElem?_eq_getElem hi]
    obtain ⟨a, b, _⟩ := h.word h0 h1 (List.getElem_mem hi)
    exact ⟨a, b⟩
  · obtain ⟨a, b⟩ := odd_spec hx
    exact ⟨a, by unfold fieldOk wIs; rw [decide_eq_true b, Bool.or_true]⟩
theorem BkO.fixAll (h : BkO first obs ws qs) (h0 : 0 ≤ first) (h1 : first + ((flat obs).length : Int) ≤ 4294967295) {fs : List Int} (hx : ∀ x ∈ fs, fitW x) : (∀ x ∈ fs.map (fixF ws), fitW x) ∧ (fs.map (fixF ws)).all (fieldOk first obs) = true := by
  refine ⟨fun x hx' => ?_, List.all_eq_true.2 fun x hx' => ?_⟩
  · obtain ⟨y, hy, rfl⟩ := List.mem_map.1 hx'
    exact (h.fix h0 h1 (hx y hy)).1
  · obtain ⟨y, hy, rfl⟩ := List.mem_map.1 hx'
    exact (h.fix h0 h1 (hx y hy)).2
theorem BkO.snoc (h : BkO first obs ws qs) (h0 : 0 ≤ first) (h1 : first + ((flat obs).length : Int) ≤ 4294967295) (q : ObE) {x : Int} (hx : x = wPlace (first + ((flat obs).length : Int))) : BkO first (obs ++ [obO q]) (ws ++ [x]) (qs ++ [q]) := by
  have key : ∀ (i : Nat) (y : Int), (ws ++ [x])[i]? = some y → (i < ws.length ∧ ws[i]? = some y) ∨ (i = ws.length ∧ y = x) := by
    intro i y hi
    by_cases hl : i < ws.length
    · rw [List.getElem?_append_left hl] at hi
      exact .inl ⟨hl, hi⟩
    · have hl2 : i = ws.length := by have := (List.getElem?_eq_some_iff.1 hi).1; simp at this; omega
      subst hl2
      rw [List.getElem?_append_right (Nat.le_refl _), Nat.sub_self] at hi
      simp at hi
      exact .inr ⟨rfl, hi.symm⟩
  have ne : ∀ (i : Nat), ws[i]? = some x → False := by
    intro i hi
    obtain ⟨_, _, m, hm, e, _⟩ := h.word h0 h1 (List.mem_of_getElem? hi)
    have e1 := (placeO_two (x := first + (m : Int)) (by omega) (by omega)).1
    have e2 := (placeO_two (x := first + ((flat obs).length : Int)) (by omega) h1).1
    rw [hx] at e
    omega
  refine ⟨by simp [h.len], fun i y q' hi hq => ?_, fun i j y hi hj => ?_⟩
  · rcases key i y hi with ⟨hl, hi⟩ | ⟨rfl, rfl⟩
    · rw [List.getElem?_append_left (by rw [← h.len]; exact hl)] at hq
      obtain ⟨m, e, ho⟩ := h.ob i y q' hi hq
      exact ⟨m, e, objAt_append [obO q] ho⟩
    · rw [h.len, List.getElem?_append_right (Nat.le_refl _), Nat.sub_self] at hq
      simp at hq
      subst hq
      exact ⟨(flat obs).length, hx, objAt_here obs [] (obO q)⟩
  · rcases key i y hi with ⟨_, hi2⟩ | ⟨hi1, hi2⟩
    · rcases key j y hj with ⟨_, hj2⟩ | ⟨hj1, hj2⟩
      · exact h.inj i j y hi2 hj2
      · exact (ne i (hj2 ▸ hi2)).elim
    · rcases key j y hj with ⟨_, hj2⟩ | ⟨hj1, hj2⟩
      · exact (ne j (hi2 ▸ hj2)).elim
      · omega
/-- A field of the k-th object is set: the others stand. -/
theorem BkO.set (h : BkO first obs ws qs) (h0 : 0 ≤ first) (h1 : first + ((flat obs).length : Int) ≤ 4294967295) {k m f : Nat} {x v : Int} {q q' : ObE} (hx : ws[k]? = some x) (hq : qs[k]? = some q) (hm : refers first obs x = some m) (he : obO q' = (obO q).setF f v) : BkO first (setAll obs m f v) ws (qs.set k q') := by
  obtain ⟨m', e, ho⟩ := h.ob k x q hx hq
  have hm' : m' = m := by
    have hl := objAt_lt ho
    have := refersO_place (first := first) ho h0 (by omega)
    rw [← e, hm] at this
    exact (Option.some.inj this).symm
  subst hm'
  have hkl : k < qs.length := (List.getElem?_eq_some_iff.1 hq).1
  refine ⟨by rw [List.length_set]; exact h.len, fun i y r hi hr => ?_, h.inj⟩
  by_cases hik : i = k
  · subst hik
    rw [List.getElem?_set_self hkl] at hr
    cases hr
    rw [hx] at hi
    cases hi
    exact ⟨m', e, by rw [he]; exact objAtO_same v ho⟩
  · rw [List.getElem?_set_ne (Ne.symm hik)] at hr
    obtain ⟨n, e2, ho2⟩ := h.ob i y r hi hr
    refine ⟨n, e2, ?_⟩
    rw [objAtO_other v ho (fun en => hik ?_)]
    · exact ho2
    · subst en
      rw [← e] at e2
      subst e2
      exact h.inj i k _ hi hx
end

/-! ## In memory -/

def obL (l : List ObE) : List Value := l.flatMap obCs
theorem obL_length (l : List ObE) : (obL l).length = l.length * 4 := by
  induction l with
  | nil => rfl
  | cons x l ih => simp only [obL, List.flatMap_cons, List.length_append, List.length_cons] at ih ⊢; rw [ih]; simp; omega
theorem obL_app (a b : List ObE) : obL (a ++ b) = obL a ++ obL b := by simp [obL]
theorem obL_one {l : List ObE} : ∀ u ∈ obL l, u.oneCell' = true := by
  intro u hu
  obtain ⟨s, _, hs⟩ := List.mem_flatMap.1 hu
  simp at hs
  rcases hs with rfl | rfl | rfl | rfl <;> rfl
theorem obL_get : ∀ (xs : List ObE) (k : Nat) (x : ObE), xs[k]? = some x → (obL xs)[k * 4]? = some (.int .i64 x.k) ∧ (obL xs)[k * 4 + 1]? = some (.int .i64 x.t) ∧ (obL xs)[k * 4 + 2]? = some (.slice x.a x.fs.length x.c) ∧ (obL xs)[k * 4 + 3]? = some (.string x.s)
  | [], k, x, h => by simp at h
  | y :: l, 0, x, h => by
    simp at h
    subst h
    exact ⟨rfl, rfl, rfl, rfl⟩
  | y :: l, k + 1, x, h => by
    obtain ⟨h1, h2, h3, h4⟩ := obL_get l k x (by simpa using h)
    have e : obL (y :: l) = .int .i64 y.k :: .int .i64 y.t :: .slice y.a y.fs.length y.c :: .string y.s :: obL l := rfl
    rw [e]
    have e1 : (k + 1) * 4 = k * 4 + 1 + 1 + 1 + 1 := by omega
    rw [e1]
    simp only [Nat.add_right_comm _ 1, List.getElem?_cons_succ]
    exact ⟨h1, h2, h3, h4⟩
theorem owns_apartO {w : World} {B B' : Nat} {e e' : TypeId} {s s' : Nat} {v v' : Value} {n n' : Nat} {xs xs' : List Value} (h : w.ownsRow B e s v n xs) (h' : w.ownsRow B' e' s' v' n' xs') (hne : e ≠ e') : ∀ g, v.ownBlock = some g → v'.ownBlock ≠ some g := by
  rcases owns_parts h with ⟨rfl, _⟩ | ⟨g, cap, rest, rfl, _, hr, _⟩
  · intro g hg; cases hg
  · rcases owns_parts h' with ⟨rfl, _⟩ | ⟨g', cap', rest', rfl, _, hr', _⟩
    · intro k _ hk; cases hk
    · intro k hk hk'
      have e1 : g = k := by simpa [Value.ownBlock] using hk
      have e2 : g' = k := by simpa [Value.ownBlock] using hk'
      subst e1 e2
      unfold rowAt at hr hr'
      rw [hr] at hr'
      injection hr' with h1
      injection h1 with h2 h3
      exact hne h3
abbrev obF (q : ObE) : Value := .slice q.a q.fs.length q.c
/-- A list of fields of one's own, in a block that is not that of the words. -/
def ownF (V : World) (vw : Value) (q : ObE) (W : World) : Prop := W.ownsRow V.heap.size 39 1 (obF q) q.fs.length (wordsL q.fs) ∧ ∀ g, (obF q).ownBlock = some g → vw.ownBlock ≠ some g
/-- The two lists that grow, with the arena and the heap's variable beside them. -/
structure OkO (w V : World) (p p2 b1 hb : Nat) (F : Nat → Prop) (A : Ar) (half tp : Int) (vw vh : Value) (ws : List Int) (qs : List ObE) (W : World) : Prop where
  os : Osl w p p2 F A b1 W
  up : Upon (fun k => F k ∨ k = hb) V W
  hp : rowAt W hb 33 [.int .i64 3, .int .i64 half, .int .i64 0, .int .i64 tp]
  hF : ¬ F hb
  hn : hb ≠ b1
  hw : w.heap.size ≤ hb
  hv : hb < V.heap.size
  bv : b1 < V.heap.size
  fv : ∀ k, F k → k < V.heap.size
  ow : W.ownsRow V.heap.size 39 1 vw ws.length (wordsL ws)
  oh : W.ownsRow V.heap.size 35 4 vh qs.length (obL qs)
  fl : ∀ q ∈ qs, ownF V vw q W
section
variable {w V : World} {p p2 b1 hb : Nat} {F : Nat → Prop} {A A' : Ar} {half tp : Int} {vw vh : Value} {ws : List Int} {qs : List ObE} {W W' : World}
theorem ownF.turn {q : ObE} (h : ownF V vw q W) {S : Nat → Prop} (hu : Upon S W W') (hS : ∀ g, (obF q).ownBlock = some g → ¬ S g) : ownF V vw q W' := ⟨owns_upon h.1 hu hS, h.2⟩
theorem ownF.drew {q : ObE} (h : ownF V vw q W) : ownF V vw q W.drew := ⟨h.1, h.2⟩
theorem OkO.on (h : OkO w V p p2 b1 hb F A half tp vw vh ws qs W) (hb' : Below W.heap.size W W') : OkO w V p p2 b1 hb F A half tp vw vh ws qs W' :=
  ⟨h.os.on hb', h.up.trans (Upon.of_below (S := fun _ => False) hb') (fun _ _ t => t.elim), h.hp.below hb' h.hp.lt, h.hF, h.hn, h.hw, h.hv, h.bv, h.fv, owns_upon h.ow (Upon.of_below (S := fun _ => False) hb') (fun _ _ t => t), owns_upon h.oh (Upon.of_below (S := fun _ => False) hb') (fun _ _ t => t), fun q hq => (h.fl q hq).turn (Upon.of_below (S := fun _ => False) hb') (fun _ _ t => t)⟩
theorem OkO.step (h : OkO w V p p2 b1 hb F A half tp vw vh ws qs W) (hs : Step F F W W') (hh : Held W' p F A') : OkO w V p p2 b1 hb F A' half tp vw vh ws qs W' := by
  have off : ∀ g, V.heap.size ≤ g → ¬ F g := fun g hg hf => by have := h.fv g hf; omega
  exact ⟨h.os.step hs hh, h.up.trans hs.upon (fun _ _ t => .inl t), h.hp.upon hs.upon h.hF, h.hF, h.hn, h.hw, h.hv, h.bv, h.fv,
    owns_upon h.ow hs.upon (fun g hg => off g (h.ow.lt g hg).1), owns_upon h.oh hs.upon (fun g hg => off g (h.oh.lt g hg).1), fun q hq => (h.fl q hq).turn hs.upon (fun g hg => off g ((h.fl q hq).1.lt g hg).1)⟩
theorem uponO4 (w : World) (b o0 o1 o2 o3 : Nat) (a c d e : Value) : Upon (fun j => j = b) w ((((w.setCell ⟨b, o0, none⟩ a).setCell ⟨b, o1, none⟩ c).setCell ⟨b, o2, none⟩ d).setCell ⟨b, o3, none⟩ e) :=
  (((Upon.setCell (S := fun j => j = b) ⟨b, o0, none⟩ a rfl).trans (Upon.setCell (S := fun j => j = b) ⟨b, o1, none⟩ c rfl) (fun _ _ t => t)).trans (Upon.setCell (S := fun j => j = b) ⟨b, o2, none⟩ d rfl) (fun _ _ t => t)).trans (Upon.setCell (S := fun j => j = b) ⟨b, o3, none⟩ e rfl) (fun _ _ t => t)
theorem OkO.heap (h : OkO w V p p2 b1 hb F A half tp vw vh ws qs W) (tp' : Int) :
    OkO w V p p2 b1 hb F A half tp' vw vh ws qs ((((W.setCell ⟨hb, 0, none⟩ (.int .i64 3)).setCell ⟨hb, 1, none⟩ (.int .i64 half)).setCell ⟨hb, 2, none⟩ (.int .i64 0)).setCell ⟨hb, 3, none⟩ (.int .i64 tp')) := by
  have hu : Upon (fun k => k = hb) W ((((W.setCell ⟨hb, 0, none⟩ (.int .i64 3)).setCell ⟨hb, 1, none⟩ (.int .i64 half)).setCell ⟨hb, 2, none⟩ (.int .i64 0)).setCell ⟨hb, 3, none⟩ (.int .i64 tp')) :=
    uponO4 _ _ _ _ _ _ _ _ _ _
  have off : ∀ g, V.heap.size ≤ g → ¬ g = hb := fun g hg e => by have := h.hv; omega
  exact ⟨h.os.upon hu h.hw h.hF h.hn.symm, h.up.trans hu (fun _ _ e => .inr e), (((h.hp.set 0 _).set 1 _).set 2 _).set 3 _, h.hF, h.hn, h.hw, h.hv, h.bv, h.fv,
    owns_upon h.ow hu (fun g hg => off g (h.ow.lt g hg).1), owns_upon h.oh hu (fun g hg => off g (h.oh.lt g hg).1), fun q hq => (h.fl q hq).turn hu (fun g hg => off g ((h.fl q hq).1.lt g hg).1)⟩
/-- What turned lies behind what V had. -/
theorem OkO.grow (h : OkO w V p p2 b1 hb F A half tp vw vh ws qs W) {S : Nat → Prop} (hu : Upon S W W') (hS : ∀ k, S k → V.heap.size ≤ k) {vw' vh' : Value} {ws' : List Int} {qs' : List ObE}
    (how : W'.ownsRow V.heap.size 39 1 vw' ws'.length (wordsL ws')) (hoh : W'.ownsRow V.heap.size 35 4 vh' qs'.length (obL qs')) (hfl : ∀ q ∈ qs', ownF V vw' q W') : OkO w V p p2 b1 hb F A half tp vw' vh' ws' qs' W' := by
  have hV : w.heap.size ≤ V.heap.size := Nat.le_trans h.hw (Nat.le_of_lt h.hv)
  have hVW := h.up.size
  refine ⟨⟨h.os.held.upon hu fun k hk hs => by have := h.fv k hk; have := hS k hs; omega, h.os.two.upon hu fun hs => by have := h.bv; have := hS _ hs; omega, h.os.n1, h.os.lowF, h.os.low, h.os.below.trans (hu.belowB h.os.below.size fun k hs => Nat.le_trans hV (hS k hs))⟩,
    h.up.trans hu (fun i hi hs => by have := hS i hs; omega), h.hp.upon hu (fun hs => by have := h.hv; have := hS _ hs; omega), h.hF, h.hn, h.hw, h.hv, h.bv, h.fv, how, hoh, hfl⟩
/-- What turned was new when the lists already stood. -/
theorem OkO.side {W0 : World} {A0 : Ar} {tp0 : Int} (h : OkO w V p p2 b1 hb F A half tp vw vh ws qs W) (h0 : OkO w V p p2 b1 hb F A0 half tp0 vw vh ws qs W0) {S : Nat → Prop} (hu : Upon S W W') (hS : ∀ k, S k → W0.heap.size ≤ k) : OkO w V p p2 b1 hb F A half tp vw vh ws qs W' := by
  have hV := h0.up.size
  exact h.grow hu (fun k hk => Nat.le_trans hV (hS k hk)) (owns_upon h.ow hu (fun g hg hs => by have := (h0.ow.lt g hg).2; have := hS g hs; omega)) (owns_upon h.oh hu (fun g hg hs => by have := (h0.oh.lt g hg).2; have := hS g hs; omega))
    (fun q hq => (h.fl q hq).turn hu (fun g hg hs => by have := ((h0.fl q hq).1.lt g hg).2; have := hS g hs; omega))
theorem OkO.drew (h : OkO w V p p2 b1 hb F A half tp vw vh ws qs W) : OkO w V p p2 b1 hb F A half tp vw vh ws qs W.drew := h.on (bl_drew (Below.refl _ _))
theorem OkO.al (h : OkO w V p p2 b1 hb F A half tp vw vh ws qs W) (o : Obj) : OkO w V p p2 b1 hb F A half tp vw vh ws qs (W.alloc o) := h.on (bl_alloc (Below.refl _ _) _)
end

/-- With the rows that are laid for the appends, and the fields of the object that comes. -/
structure TwO (w V : World) (p p2 b1 hb : Nat) (F : Nat → Prop) (A : Ar) (half tp : Int) (vw vh : Value) (ws : List Int) (qs : List ObE) (q : ObE) (E : List (Nat × TypeId × List Value)) (W : World) : Prop where
  k : OkO w V p p2 b1 hb F A half tp vw vh ws qs W
  f : ownF V vw q W
  ex : ∀ r ∈ E, rowAt W r.1 r.2.1 r.2.2 ∧ vw.ownBlock ≠ some r.1 ∧ vh.ownBlock ≠ some r.1 ∧ V.heap.size ≤ r.1
section
variable {w V : World} {p p2 b1 hb : Nat} {F : Nat → Prop} {A : Ar} {half tp : Int} {vw vh : Value} {ws : List Int} {qs : List ObE} {q : ObE} {E : List (Nat × TypeId × List Value)} {W : World}
theorem TwO.start (h : OkO w V p p2 b1 hb F A half tp vw vh ws qs W) (hf : ownF V vw q W) : TwO w V p p2 b1 hb F A half tp vw vh ws qs q [] W := ⟨h, hf, fun r hr => by cases hr⟩
theorem TwO.alloc (h : TwO w V p p2 b1 hb F A half tp vw vh ws qs q E W) (T : TypeId) (xs : List Value) : TwO w V p p2 b1 hb F A half tp vw vh ws qs q ((W.heap.size, T, xs) :: E) (W.alloc (.cells ⟨xs⟩ T)) := by
  refine ⟨h.k.al _, h.f.turn (Upon.alloc (fun _ => False) _ _) (fun _ _ t => t), fun r hr => ?_⟩
  rcases List.mem_cons.1 hr with rfl | hr
  · exact ⟨rowAt.made W T xs, fun e => by have := (h.k.ow.lt _ e).2; simp at this, fun e => by have := (h.k.oh.lt _ e).2; simp at this, h.k.up.size⟩
  · obtain ⟨h1, h2⟩ := h.ex r hr
    exact ⟨h1.alloc _, h2⟩
theorem TwO.drew (h : TwO w V p p2 b1 hb F A half tp vw vh ws qs q E W) : TwO w V p p2 b1 hb F A half tp vw vh ws qs q E W.drew := ⟨h.k.drew, ⟨h.f.1, h.f.2⟩, h.ex⟩
theorem grownO {w w' : World} {row : Option Nat} (h : w.grownBy w' row) : Upon (fun k => row = some k) w w' := Upon.grown h fun k e => e
theorem TwO.app_w {W' : World} {v' : Value} {x : Int} (h : TwO w V p p2 b1 hb F A half tp vw vh ws qs q E W) (ho : W'.ownsRow V.heap.size 39 1 v' (ws.length + 1) (wordsL ws ++ [.int .u64 x])) (hg : W.grownBy W' vw.ownBlock) (hb' : v'.ownBlock = vw.ownBlock ∨ v'.ownBlock = some W.heap.size) :
    TwO w V p p2 b1 hb F A half tp v' vh (ws ++ [x]) qs q E W' := by
  have hu := grownO hg
  have turn : ∀ r : ObE, ownF V vw r W → ownF V v' r W' := fun r hr => ⟨owns_upon hr.1 hu (fun g hg e => hr.2 g hg e), fun g hg e => by
    rcases hb' with hb' | hb'
    · exact hr.2 g hg (hb' ▸ e)
    · rw [hb'] at e; have := (hr.1.lt g hg).2; have := Option.some.inj e; omega⟩
  refine ⟨h.k.grow hu (fun k e => (h.k.ow.lt k e).1) ?_ (owns_upon h.k.oh hu fun g e e2 => owns_apartO h.k.ow h.k.oh (by decide) g e2 e) (fun r hr => turn r (h.k.fl r hr)), turn q h.f, fun r hr => ?_⟩
  · rw [List.length_append, show wordsL (ws ++ [x]) = wordsL ws ++ [.int .u64 x] by simp [wordsL]]; exact ho
  · obtain ⟨h1, h2, h3, h4⟩ := h.ex r hr
    refine ⟨h1.upon hu fun e => h2 e, fun e => ?_, h3, h4⟩
    rcases hb' with hb' | hb'
    · exact h2 (hb' ▸ e)
    · rw [hb'] at e; have e2 := Option.some.inj e; have := h1.lt; omega
theorem TwO.app_h {W' : World} {v' : Value} (h : TwO w V p p2 b1 hb F A half tp vw vh ws qs q E W) (ho : W'.ownsRow V.heap.size 35 4 v' (qs.length + 1) (obL qs ++ obCs q)) (hg : W.grownBy W' vh.ownBlock) (hb' : v'.ownBlock = vh.ownBlock ∨ v'.ownBlock = some W.heap.size) :
    TwO w V p p2 b1 hb F A half tp vw v' ws (qs ++ [q]) q E W' := by
  have hu := grownO hg
  have turn : ∀ r : ObE, ownF V vw r W → ownF V vw r W' := fun r hr => hr.turn hu (fun g hg e => owns_apartO hr.1 h.k.oh (by decide) g hg e)
  refine ⟨h.k.grow hu (fun k e => (h.k.oh.lt k e).1) (owns_upon h.k.ow hu fun g e e2 => owns_apartO h.k.ow h.k.oh (by decide) g e e2) ?_ (fun r hr => ?_), turn q h.f, fun r hr => ?_⟩
  · rw [List.length_append, show obL (qs ++ [q]) = obL qs ++ obCs q by simp [obL]]; exact ho
  · rcases List.mem_append.1 hr with hr | hr
    · exact turn r (h.k.fl r hr)
    · rw [List.mem_singleton.1 hr]; exact turn q h.f
  · obtain ⟨h1, h2, h3, h4⟩ := h.ex r hr
    refine ⟨h1.upon hu fun e => h3 e, h2, fun e => ?_, h4⟩
    rcases hb' with hb' | hb'
    · exact h3 (hb' ▸ e)
    · rw [hb'] at e; have e2 := Option.some.inj e; have := h1.lt; omega
theorem info_obO : (Try.prog.info? 35).map (fun i => (i.zero, i.size, i.bytes)) = some (some (.agg #[.int .i64 0, .int .i64 0, .slice none 0 0, .string ⟨#[]⟩]), 4, 56) := by kernel_rfl
theorem info_u64O : (Try.prog.info? 39).map (fun i => (i.zero, i.size, i.bytes)) = some (some (.int .u64 0), 1, 8) := by kernel_rfl
theorem row_srcO {w : World} {b : Nat} {T : TypeId} {xs : List Value} (h : rowAt w b T xs) (m : Nat) : m = 0 ∨ ∃ ad, (some (⟨b, 0, none⟩ : Addr)) = some ad ∧ ∀ j u, xs[j]? = some u → w.cell? (ad.add j) = some u := by
  refine .inr ⟨_, rfl, fun j u hj => ?_⟩
  rw [Addr.add_lit, Nat.zero_add, h.cell]
  exact hj
theorem step_owO {ops : Array Oper} {o : Oper} {a : Act} {K : Act → World → Prop} {Q : Exit → Act → World → Prop} {Ep : Prop} (hgd : o.guard = none) (s x : Operand)
    (ho : o.op = .call { callee := .builtin .append, args := #[s, x], argTypes := #[30, 30] }) (b c : Nat) (z : Int)
    (h : TwO w V p p2 b1 hb F A half tp vw vh ws qs q E W) (hs : a.eval s = vw) (hx : a.eval x = .slice (some ⟨b, 0, none⟩) 1 c) (hE : (b, 39, [Value.int .u64 z]) ∈ E) (hn : ws.length ≤ 40)
    (k : ∀ v' w', TwO w V p p2 b1 hb F A half tp v' vh (ws ++ [z]) qs q E w' → K (a.put o.dst v') w') :
    if Region.wanted o (yielded ops a.tmps) = true then Oper.wp Try.prog o a W K Q else Ep := by
  obtain ⟨i0, hi, hz0, hz1, hz2⟩ := info_parts info_u64O
  exact step_append_w hgd s x _ ho V.heap.size 39 i0 (.int .u64 0) 1 8 Try.underlying30 hi hz0 hz1 hz2 (by rfl) (by decide) vw ws.length (wordsL ws) hs h.k.ow (some ⟨b, 0, none⟩) 1 c [.int .u64 z] hx rfl (row_srcO (h.ex _ hE).1 1) (fun u hu => by simp at hu; rw [hu]; rfl) (by simp only [maxLen]; omega) (by omega) h.k.up.size
    fun v' w' h1 h2 h3 => k v' w' (h.app_w h1 h2 h3)
theorem step_ohO {ops : Array Oper} {o : Oper} {a : Act} {K : Act → World → Prop} {Q : Exit → Act → World → Prop} {Ep : Prop} (hgd : o.guard = none) (s x : Operand)
    (ho : o.op = .call { callee := .builtin .append, args := #[s, x], argTypes := #[22, 22] }) (b c : Nat)
    (h : TwO w V p p2 b1 hb F A half tp vw vh ws qs q E W) (hs : a.eval s = vh) (hx : a.eval x = .slice (some ⟨b, 0, none⟩) 1 c) (hE : (b, 35, obCs q) ∈ E) (hn : qs.length ≤ 40)
    (k : ∀ v' w', TwO w V p p2 b1 hb F A half tp vw v' ws (qs ++ [q]) q E w' → K (a.put o.dst v') w') :
    if Region.wanted o (yielded ops a.tmps) = true then Oper.wp Try.prog o a W K Q else Ep := by
  obtain ⟨i0, hi, hz0, hz1, hz2⟩ := info_parts info_obO
  exact step_append_w hgd s x _ ho V.heap.size 35 i0 (.agg #[.int .i64 0, .int .i64 0, .slice none 0 0, .string ⟨#[]⟩]) 4 56 under_obs hi hz0 hz1 hz2 (by rfl) (by decide) vh qs.length (obL qs) hs h.k.oh (some ⟨b, 0, none⟩) 1 c (obCs q) hx rfl (row_srcO (h.ex _ hE).1 1) (fun u hu => obL_one (l := [q]) u (by simpa [obL] using hu)) (by simp only [maxLen]; omega) (by omega) h.k.up.size
    fun v' w' h1 h2 h3 => k v' w' (h.app_h h1 h2 h3)
end
end Go.Proofs.Ytnjpjhlodamanaa

/-
  The second loop of the law ObjectBack, in memory: an object of the list is laid anew, a field of it set.
  Conditions: as each states.
-/
namespace Go.Proofs.Ytnjpjhlodamanaa
set_option linter.unusedVariables false
set_option linter.unusedSimpArgs false
open Go.ChangeShapes Go.WideShapes Go.ChangeAt Go.RowKit
open objectOwn (Osl odd odd_spec row_set)
set_option maxRecDepth 100000
section
variable {w V : World} {p p2 b1 hb : Nat} {F : Nat → Prop} {A A0 : Ar} {half tp tp0 : Int} {vw vh : Value} {ws : List Int} {qs : List ObE} {W W0 W' : World}
theorem obL_set : ∀ (l : List ObE) (k : Nat) (x : ObE), k < l.length → (((((obL l).set (k * 4) (.int .i64 x.k)).set (k * 4 + 1) (.int .i64 x.t)).set (k * 4 + 2) (.slice x.a x.fs.length x.c)).set (k * 4 + 3) (.string x.s)) = obL (l.set k x)
  | [], k, x, h => by simp at h
  | y :: l, 0, x, h => by rfl
  | y :: l, k + 1, x, h => by
    have ih := obL_set l k x (by simpa using h)
    have e : ∀ (y : ObE) (l : List ObE), obL (y :: l) = .int .i64 y.k :: .int .i64 y.t :: .slice y.a y.fs.length y.c :: .string y.s :: obL l := fun _ _ => rfl
    have e1 : (k + 1) * 4 = k * 4 + 1 + 1 + 1 + 1 := by omega
    rw [List.set_cons_succ, e, e, e1]
    simp only [Nat.add_right_comm _ 1, List.set_cons_succ]
    rw [ih]
theorem obL_row {rest : List Value} {T : TypeId} {hg : Nat} (h : rowAt W hg T (obL qs ++ rest)) {k : Nat} (hk : k < qs.length) (x : ObE) :
    rowAt ((((W.setCell ⟨hg, k * 4, none⟩ (.int .i64 x.k)).setCell ⟨hg, k * 4 + 1, none⟩ (.int .i64 x.t)).setCell ⟨hg, k * 4 + 2, none⟩ (.slice x.a x.fs.length x.c)).setCell ⟨hg, k * 4 + 3, none⟩ (.string x.s)) hg T (obL (qs.set k x) ++ rest) := by
  have hl := obL_length qs
  have h2 := (((h.set (k * 4) (.int .i64 x.k)).set (k * 4 + 1) (.int .i64 x.t)).set (k * 4 + 2) (.slice x.a x.fs.length x.c)).set (k * 4 + 3) (.string x.s)
  rw [List.set_append_left _ _ (by omega), List.set_append_left _ _ (by rw [List.length_set]; omega), List.set_append_left _ _ (by rw [List.length_set, List.length_set]; omega), List.set_append_left _ _ (by rw [List.length_set, List.length_set, List.length_set]; omega), obL_set qs k x hk] at h2
  exact h2
theorem mem_set_or {α : Type} {l : List α} {k : Nat} {x y : α} (h : y ∈ l.set k x) : y ∈ l ∨ y = x := by
  rcases List.mem_or_eq_of_mem_set h with h | h
  · exact .inl h
  · exact .inr h
/-- The k-th object is another one, with fields of its own. -/
theorem OkO.lay (h : OkO w V p p2 b1 hb F A half tp vw vh ws qs W) {k hg n ch : Nat} (hk : k < qs.length) (hvh : vh = .slice (some ⟨hg, 0, none⟩) n ch) (q : ObE) (hf : ownF V vw q W) :
    OkO w V p p2 b1 hb F A half tp vw vh ws (qs.set k q) ((((W.setCell ⟨hg, k * 4, none⟩ (.int .i64 q.k)).setCell ⟨hg, k * 4 + 1, none⟩ (.int .i64 q.t)).setCell ⟨hg, k * 4 + 2, none⟩ (.slice q.a q.fs.length q.c)).setCell ⟨hg, k * 4 + 3, none⟩ (.string q.s)) := by
  subst hvh
  have hu : Upon (fun j => j = hg) W ((((W.setCell ⟨hg, k * 4, none⟩ (.int .i64 q.k)).setCell ⟨hg, k * 4 + 1, none⟩ (.int .i64 q.t)).setCell ⟨hg, k * 4 + 2, none⟩ (.slice q.a q.fs.length q.c)).setCell ⟨hg, k * 4 + 3, none⟩ (.string q.s)) :=
    uponO4 _ _ _ _ _ _ _ _ _ _
  have hB := (h.oh.lt hg rfl).1
  have ap : ∀ r : ObE, ownF V vw r W → ∀ g, (obF r).ownBlock = some g → ¬ g = hg := fun r hr g hgr e => owns_apartO hr.1 h.oh (by decide) g hgr (by rw [e]; rfl)
  refine h.grow hu (fun j e => by subst e; exact hB) (owns_upon h.ow hu (fun g hg' e => owns_apartO h.ow h.oh (by decide) g hg' (by rw [e]; rfl))) ?_ (fun r hr => ?_)
  · rcases owns_parts h.oh with ⟨e, _⟩ | ⟨g', cap, rest, e, hB', hr, h1, h2, h3, h4⟩
    · cases e
    · cases e
      have hl := obL_length (qs.set k q)
      rw [List.length_set] at hl
      rw [List.length_set]
      exact owns_mk (rest := rest) (obL_row hr hk q) hB' hl (by rw [hl]; rw [h1] at h2; exact h2) h3 h4
  · rcases mem_set_or hr with hr | rfl
    · exact (h.fl r hr).turn hu (ap r (h.fl r hr))
    · exact hf.turn hu (ap _ hf)
/-- A field of the k-th object is set, in a block that no other one has. -/
theorem OkO.field {k : Nat} {q : ObE} (h : OkO w V p p2 b1 hb F A half tp vw vh ws (qs.set k q) W) {g f : Nat} (hk : k < qs.length) (hq : q.a = some ⟨g, 0, none⟩) (hf : f < q.fs.length) (v : Int) (hne : ∀ r ∈ qs, ∀ g', (obF r).ownBlock = some g' → g' ≠ g) :
    OkO w V p p2 b1 hb F A half tp vw vh ws (qs.set k { q with fs := q.fs.set f v }) (W.setCell ⟨g, f, none⟩ (.int .u64 v)) := by
  obtain ⟨qk, qt, qa, qc, qf, qs'⟩ := q
  simp only at hq hf ⊢
  subst hq
  have hmem : (⟨qk, qt, some ⟨g, 0, none⟩, qc, qf, qs'⟩ : ObE) ∈ qs.set k ⟨qk, qt, some ⟨g, 0, none⟩, qc, qf, qs'⟩ := by
    exact List.mem_of_getElem? (List.getElem?_set_self hk)
  have hfl := h.fl _ hmem
  have hu : Upon (fun j => j = g) W (W.setCell ⟨g, f, none⟩ (.int .u64 v)) := Upon.setCell (S := fun j => j = g) ⟨g, f, none⟩ _ rfl
  have hB := (hfl.1.lt g rfl).1
  have hl : (qf.set f v).length = qf.length := List.length_set
  have hfl2 : ownF V vw ⟨qk, qt, some ⟨g, 0, none⟩, qc, qf.set f v, qs'⟩ (W.setCell ⟨g, f, none⟩ (.int .u64 v)) := by
    refine ⟨?_, hfl.2⟩
    show (W.setCell ⟨g, f, none⟩ (.int .u64 v)).ownsRow V.heap.size 39 1 (.slice (some ⟨g, 0, none⟩) (qf.set f v).length qc) (qf.set f v).length (wordsL (qf.set f v))
    rw [hl]
    rcases owns_parts hfl.1 with ⟨e, _⟩ | ⟨g', cap, rest, e, hB', hr, h1, h2, h3, h4⟩
    · cases e
    · cases e
      exact owns_mk (rest := rest) (row_set hr hf v) hB' (by simp) (by simpa using h2) h3 h4
  have heq : obL (qs.set k ⟨qk, qt, some ⟨g, 0, none⟩, qc, qf.set f v, qs'⟩) = obL (qs.set k ⟨qk, qt, some ⟨g, 0, none⟩, qc, qf, qs'⟩) := by
    rw [← obL_set qs k _ hk, ← obL_set qs k _ hk, hl]
  refine h.grow hu (fun j e => by subst e; exact hB) (owns_upon h.ow hu (fun g' hg' e => hfl.2 g rfl (by rw [← e]; exact hg'))) ?_ (fun r hr => ?_)
  · rw [heq, List.length_set]
    have := owns_upon h.oh hu (fun g' hg' e => owns_apartO hfl.1 h.oh (by decide) g rfl (by rw [← e]; exact hg'))
    rwa [List.length_set] at this
  · obtain ⟨i, hi⟩ := List.mem_iff_getElem?.1 hr
    by_cases hik : i = k
    · subst hik
      rw [List.getElem?_set_self hk] at hi
      cases hi
      exact hfl2
    · rw [List.getElem?_set_ne (Ne.symm hik)] at hi
      have h2 : r ∈ qs.set k ⟨qk, qt, some ⟨g, 0, none⟩, qc, qf, qs'⟩ := List.mem_of_getElem? (by rw [List.getElem?_set_ne (Ne.symm hik)]; exact hi)
      exact (h.fl r h2).turn hu (hne r (List.mem_of_getElem? hi))
end
end Go.Proofs.Ytnjpjhlodamanaa

/-
  A law's argument that is a slice of arrays of integers.
  Conditions: as stated.
-/
namespace Go.Proofs.Ytnjpjhlodamanaa
set_option linter.unusedVariables false
set_option linter.unusedSimpArgs false
open Go.ChangeShapes Go.WideShapes Go.ChangeAt Go.RowKit Go.Deep

section
variable {H : Type} {enc : TypeId × Value → H} {P : Program} {w : World} {base : Nat} {spare : Nat → Bool} {held : Bool}

theorem open_slice_array {t e eb : TypeId} (m : Nat) (kk : IntKind) {v : Value} {d : DataW H} {ps : List MemPlace} {r : Reach} {b0 : Nat} (ht : P.underlying t = some (.slice e)) (he : P.underlying e = some (.array m eb)) (heb : P.underlying eb = some (.int kk)) (hcb : P.cellsOf eb = 1) (hC : P.cellsOf e = m) (hpos : 0 < m)
    (hval : Value.okWide P w r b0 t v) (h : DataW.Trod enc P w base spare held t v d ps) :
    ∃ n f, structsAt w v n (List.replicate m kk) f ∧ n ≤ maxLen := by
  obtain ⟨ks, hks⟩ : ∃ ks, List.replicate m kk = ks := ⟨_, rfl⟩
  have hkl : ks.length = m := by rw [← hks]; simp
  have hkk : ∀ j k, ks[j]? = some k → j < m ∧ k = kk := by
    intro j k hj
    rw [← hks, List.getElem?_replicate] at hj
    split at hj
    · rename_i hjm; exact ⟨hjm, (Option.some.inj hj).symm⟩
    · cases hj
  have hC : P.cellsOf e = ks.length := by rw [hkl]; exact hC
  have hpos : ∃ k, ks[0]? = some k := ⟨kk, by rw [← hks, List.getElem?_replicate, if_pos hpos]⟩
  rw [hks]
  obtain ⟨fuel, hf⟩ := h
  have hcs : v.cells.toList = [v] := by
    cases v with
    | agg cs =>
      exfalso
      unfold Value.okWide at hval
      rw [ht] at hval
      rcases DataW.trod_slice ht hf with ⟨h1, _⟩ | ⟨a, len, cap, el, re, n, _, h1, _⟩
      all_goals
        simp only [Value.cells] at h1
        obtain ⟨cs⟩ := cs
        simp only at h1
        subst h1
        simp [Cell.okWide, ht, Cell.ok] at hval
    | _ => rfl
  rw [hcs] at hf
  rcases DataW.trod_slice ht hf with ⟨h1, _⟩ | ⟨a, len, cap, el, re, n, _, h1, _, hb, hl, hm, hlen, hel, _⟩
  · obtain rfl : v = .slice none 0 0 := by simpa using h1
    exact ⟨0, fun _ _ => 0, ⟨_, _, rfl, by intro i j k hi; omega, .inl rfl⟩, Nat.zero_le _⟩
  · obtain rfl : v = .slice (some a) len cap := by simpa using h1
    have each : ∀ i, i < len → ∃ g : Nat → Int, ∀ j k, ks[j]? = some k → w.cell? (a.add (i * ks.length + j)) = some (.int k (g j)) ∧ (Lit.int k (g j)).wf = true := by
      intro i hi
      have h2 := hel i hi
      rw [hC, List.getElem?_eq_getElem (by omega)] at h2
      cases hc : w.cells? base (a.add (i * ks.length)) ks.length with
      | none => rw [hc] at h2; simp at h2
      | some cs =>
        rw [hc] at h2
        simp only [Option.bind_some] at h2
        obtain ⟨_, hcl, hat⟩ := World.cells?_some hc
        obtain ⟨xs, n', _, _, hlen2, hxl, hg⟩ := DataW.trod_array he h2
        refine ⟨fun j => intOf (cs.getD j (.bool false)), fun j k hk => ?_⟩
        have hj := (List.getElem?_eq_some_iff.1 hk).1
        obtain ⟨hjm, rfl⟩ := hkk j k hk
        have hui := heb
        have h3 := hg j hjm
        have hdt : (cs.drop (j * P.cellsOf eb)).take (P.cellsOf eb) = [cs[j]'(by omega)] := by
          rw [hcb, Nat.mul_one, List.drop_eq_getElem_cons (by omega)]
          rfl
        rw [hdt, List.getElem?_eq_getElem (by omega)] at h3
        obtain ⟨z, hz, _, hw⟩ := DataW.trod_int hui h3
        have hz' : cs[j]'(by omega) = .int k z := by simpa using hz
        have hgd : intOf (cs.getD j (.bool false)) = z := by
          rw [List.getD_eq_getElem?_getD, List.getElem?_eq_getElem (by omega)]
          simp [hz', intOf]
        rw [← Go.Deep.add_add, hat j hj, List.getElem?_eq_getElem (by omega), hz']
        show some (Value.int k z) = some (Value.int k (intOf (cs.getD j (.bool false)))) ∧ (Lit.int k (intOf (cs.getD j (.bool false)))).wf = true
        rw [hgd]
        exact ⟨rfl, hw⟩
    let f : Nat → Nat → Int := fun i => if hi : i < len then Classical.choose (each i hi) else fun _ => 0
    have hff : ∀ i j k, i < len → ks[j]? = some k → w.cell? (a.add (i * ks.length + j)) = some (.int k (f i j)) ∧ (Lit.int k (f i j)).wf = true := by
      intro i j k hi hk
      have := Classical.choose_spec (each i hi) j k hk
      simp only [f, hi, dif_pos]
      exact this
    refine ⟨len, f, ⟨some a, cap, rfl, fun i j k hi hk => (hff i j k hi hk).2, ?_⟩, by omega⟩
    by_cases h0 : len = 0
    · exact .inl h0
    · obtain ⟨k0, hk0⟩ := hpos
      have hs : (w.cell? (a.add 0)).isSome = true := by
        have := (hff 0 0 k0 (by omega) hk0).1
        simp only [Nat.zero_mul, Nat.zero_add] at this
        rw [this]; rfl
      exact .inr ⟨a.block, a.off, congrArg some (eta_of_cell hs), fun i j k hi hk => add_of_cell hs (hff i j k hi hk).1⟩
end
end Go.Proofs.Ytnjpjhlodamanaa
