/-
  Package code: the reader's lists of functions, of forms.
  Conditions: as each states.
-/
import Derived.Test.YtabdbciebhmflaaDoorCoVf
namespace Go.Proofs.YtabdbciebhmflaaDoor
open Go.ChangeShapes Go.WideShapes Go.ChangeAt Go.RowKit
set_option linter.unusedVariables false
set_option linter.unusedSimpArgs false
set_option maxRecDepth 100000

/-- The inner slices of a list's things read as they should, in no block of S. -/
def Inner {α : Type} (S : Nat → Prop) (w : World) (len : α → Nat) (cs : α → List Value) (ys : List (α × Value)) : Prop := ∀ y ∈ ys, rdAt S w y.2 (len y.1) (cs y.1)

theorem inner_path {S : Nat → Prop} {w1 W w2 : World} {Z : Nat → Prop} {v v2 sv : Value} {n : Nat} {cs : List Value} (h : rdAt (fun g => Z g ∨ v.ownBlock = some g) w1 sv n cs) (hbW : Below w1.heap.size w1 W) (hg : W.grownBy w2 v.ownBlock)
    (hb2 : v2.ownBlock = v.ownBlock ∨ v2.ownBlock = some W.heap.size) : rdAt (fun g => Z g ∨ v2.ownBlock = some g) w2 sv n cs := by
  have h1 := (h.below hbW).off (T := fun g => Z g ∨ v.ownBlock = some g ∨ v2.ownBlock = some g) fun k hk e => by
    rcases e with e | e | e
    · exact .inl e
    · exact .inr e
    · rcases hb2 with hb | hb
      · exact .inr (hb ▸ e)
      · rw [hb] at e; cases e; omega
  have hu : Upon (fun g => v.ownBlock = some g) W w2 := ⟨hg.os, hg.tape, hg.output, hg.size, fun k hk h => hg.block k hk fun e => h e.symm⟩
  exact (h1.upon hu fun k _ e => .inr (.inl e)).off fun k _ e => e.imp_right .inr

theorem inner_step {α : Type} {len : α → Nat} {cs : α → List Value} {ys : List (α × Value)} {x : α} {v v2 sv : Value} {wr w1 W w2 : World} {Z : Nat → Prop} {p B size n sz : Nat} {T e : TypeId} {vs : List Value}
    (h : Inner (fun g => Z g ∨ v.ownBlock = some g) wr len cs ys) (hv : wr.ownsRow B T size v n vs) (hs : Since p wr w1) (hnew : w1.ownsRow wr.heap.size e sz sv (len x) (cs x)) (hZ : ∀ g, Z g → g < wr.heap.size) (hp : Z p)
    (hbW : Below w1.heap.size w1 W) (hg : W.grownBy w2 v.ownBlock) (hb2 : v2.ownBlock = v.ownBlock ∨ v2.ownBlock = some W.heap.size) :
    Inner (fun g => Z g ∨ v2.ownBlock = some g) w2 len cs (ys ++ [(x, sv)]) := by
  intro y hy
  rcases List.mem_append.1 hy with hy | hy
  · exact inner_path (S := fun _ => False) ((h y hy).upon hs fun k _ e => .inl (e ▸ hp)) hbW hg hb2
  · obtain rfl := List.mem_singleton.1 hy
    refine inner_path (S := fun _ => False) (rdAt.of_owns hnew fun g hg' e => ?_) hbW hg hb2
    have h1 := own_ge hnew g hg'
    rcases e with e | e
    · have := hZ g e; omega
    · have := own_ge hv g e; omega

theorem ret_slice {a b : Option Addr} {n m c d : Nat} (h : Value.slice a n c = .slice b m d) : Ending.returned (.slice a n c) = .returned (.slice b m d) := by rw [h]

def fnC (y : PFn × Value) : List Value := [.int .i64 y.1.1, .int .i64 y.1.2.1, y.2]
def fmC (y : PFm × Value) : List Value := [.int .i64 y.1.1, .int .i64 y.1.2.1, .int .i64 y.1.2.2.1, y.2]
theorem flat_get {α : Type} (f : α → List Value) (C : Nat) (hC : ∀ x, (f x).length = C) : ∀ (l : List α) (k : Nat) (x : α) (j : Nat), l[k]? = some x → j < C → (l.flatMap f)[k * C + j]? = (f x)[j]?
  | [], k, x, j, h, _ => by simp at h
  | y :: l, 0, x, j, h, hj => by
    simp at h; subst h
    rw [List.flatMap_cons, Nat.zero_mul, Nat.zero_add, List.getElem?_append_left (by rw [hC]; exact hj)]
  | y :: l, k + 1, x, j, h, hj => by
    have ih := flat_get f C hC l k x j (by simpa using h) hj
    rw [List.flatMap_cons, List.getElem?_append_right (by rw [hC, Nat.add_mul]; omega), hC, ← ih]
    congr 1
    rw [Nat.add_mul]; omega
theorem flat_len {α : Type} (f : α → List Value) (C : Nat) (hC : ∀ x, (f x).length = C) : ∀ (l : List α), (l.flatMap f).length = l.length * C
  | [] => by simp
  | y :: l => by rw [List.flatMap_cons, List.length_append, hC, flat_len f C hC l, List.length_cons, Nat.add_mul]; omega

theorem many_of {α : Type} {E : (Nat → Prop) → World → Nat → Nat → α → Prop} {C : Nat} (f : α × Value → List Value) (hC : ∀ x, (f x).length = C) {S : Nat → Prop} {w : World} {B : Nat} {T : TypeId} {v : Value} {ys : List (α × Value)} (ho : w.ownsRow B T C v ys.length (ys.flatMap f)) (hS : ∀ g, v.ownBlock = some g → ¬ S g)
    (hE : ∀ y ∈ ys, ∀ b o, (∀ j u, (f y)[j]? = some u → w.cell? ⟨b, o + j, none⟩ = some u) → E S w b o y.1) : manyAt E C S w v (ys.map (·.1)) := by
  rcases owns_parts ho with ⟨rfl, h1, h2⟩ | ⟨g, cap, rest, rfl, hg, hr, hl, hcap, hn, hm⟩
  · obtain rfl := List.length_eq_zero_iff.1 h1
    exact ⟨none, 0, rfl, .inl rfl⟩
  · refine ⟨some ⟨g, 0, none⟩, cap, by rw [List.length_map], ?_⟩
    refine .inr ⟨g, 0, rfl, hS g rfl, hr.lt, fun i x hx => ?_⟩
    rw [List.getElem?_map] at hx
    obtain ⟨y, hy, rfl⟩ := Option.map_eq_some_iff.1 hx
    refine hE y (List.mem_of_getElem? hy) _ _ fun j u hj => ?_
    have hjC : j < C := by have := (List.getElem?_eq_some_iff.1 hj).1; rw [hC] at this; exact this
    have hq := flat_get f C hC ys i y j hy hjC
    rw [hr.cell, Nat.zero_add, List.getElem?_append_left, hq, hj]
    rw [hj] at hq
    exact (List.getElem?_eq_some_iff.1 hq).1
theorem fns_of {w : World} {B : Nat} {T : TypeId} {v : Value} {ys : List (PFn × Value)} (ho : w.ownsRow B T 3 v ys.length (ys.flatMap fnC)) (hi : Inner (fun g => g < B ∨ v.ownBlock = some g) w (fun f : PFn => f.2.2.length) (fun f => insL f.2.2) ys) :
    fnsAt (fun g => g < B) w v (ys.map (·.1)) :=
  many_of fnC (fun _ => rfl) ho (fun g hg e => by have := own_ge ho g hg; omega) fun y hy b o hc =>
    ⟨hc 0 _ rfl, hc 1 _ rfl, y.2, hc 2 _ rfl, (hi y hy).off fun k _ e => .inl e⟩
theorem fms_of {w : World} {B : Nat} {T : TypeId} {v : Value} {ys : List (PFm × Value)} (ho : w.ownsRow B T 4 v ys.length (ys.flatMap fmC)) (hi : Inner (fun g => g < B ∨ v.ownBlock = some g) w (fun m : PFm => m.2.2.2.length) (fun m => intL m.2.2.2) ys) :
    fmsAt (fun g => g < B) w v (ys.map (·.1)) :=
  many_of fmC (fun _ => rfl) ho (fun g hg e => by have := own_ge ho g hg; omega) fun y hy b o hc =>
    ⟨hc 0 _ rfl, hc 1 _ rfl, hc 2 _ rfl, y.2, hc 3 _ rfl, (hi y hy).off fun k _ e => .inl e⟩

/-- A list of things with slices of their own. -/
def ManyPost {α : Type} (E : (Nat → Prop) → World → Nat → Nat → α → Prop) (C : Nat) (B0 : Nat) (w : World) (p : Nat) (l : List α) (s : Rd) (e : Ending) (w' : World) : Prop :=
  ∃ v, e = .returned v ∧ manyAt E C (fun g => g < w.heap.size) w' v l ∧ RdAt B0 w' p s ∧ Since p w w'
theorem info_fn : (Tryd.prog.info? 45).map (fun i => (i.zero, i.size, i.bytes)) = some (some (.agg #[.int .i64 0, .int .i64 0, .slice none 0 0]), 3, 40) := by kernel_rfl
theorem under_fns : Tryd.prog.underlying 22 = some (.slice 45) := by kernel_rfl
theorem info_fm : (Tryd.prog.info? 50).map (fun i => (i.zero, i.size, i.bytes)) = some (some (.agg #[.int .i64 0, .int .i64 0, .int .i64 0, .slice none 0 0]), 4, 48) := by kernel_rfl
theorem under_fms : Tryd.prog.underlying 24 = some (.slice 50) := by kernel_rfl

set_option maxHeartbeats 4000000 in
theorem funcs_any {B0 : Nat} {w : World} {p : Nat} {s : Rd} (h : RdAt B0 w p s) (T : WTab w) (hT : 0 < B0 ∧ 1 < B0) (N : Nat) (hN : N ≤ 70000) :
    Calls Tryd.prog 39 #[.pointer (some ⟨p, 0, none⟩), .int .i64 N, .func (.func 40) #[.pointer (some ⟨p, 0, none⟩)] #[]] w
      (ManyPost fnAt 3 B0 w p (rdList rdFn N s).1 (rdList rdFn N s).2) := by
  have hlow := h.low
  have hplt := h.lt
  obtain ⟨i0, hi, hz0, hz1, hz2⟩ := info_parts info_fn
  go_enter Tryd.func39, Tryd.ntmps39
  go_wp2_with fail
  go_loopw [7] (fun v wr => ∃ (xs : List (PFn × Value)) (m : Nat) (st : Rd), xs.length + m = N ∧ Hid (wr.ownsRow w.heap.size 45 3 v xs.length (xs.flatMap fnC)) ∧ Hid (Inner (fun g => g < w.heap.size ∨ v.ownBlock = some g) wr (fun f : PFn => f.2.2.length) (fun f => insL f.2.2) xs) ∧ Hid (RdAt B0 wr p st) ∧ Hid (Since p w wr) ∧ Hid (rdList rdFn N s = (xs.map (·.1) ++ (rdList rdFn m st).1, (rdList rdFn m st).2))) (fun v _ => N - slLen v)
  case atStart => exact ⟨[], N, s, by simp, Lib.hid (World.ownsRow_nil _ _ _ 3), Lib.hid (fun y hy => by cases hy), Lib.hid h, Lib.hid (Upon.refl _ _), Lib.hid (by simp)⟩
  case round =>
    obtain ⟨xs, m, st, hm, HO, HI, HR, HS, HL⟩ := hrel
    obtain ⟨a, c, rfl⟩ := owns_slice HO.out
    obtain ⟨c1, -⟩ := HR.out.cells
    by_cases hm0 : m = 0
    · have PO := Lib.hid (show ManyPost fnAt 3 B0 w p (rdList rdFn N s).1 (rdList rdFn N s).2 (.returned (.slice a xs.length c)) wr from by
        rw [HL.out, list_done _ m (.inl hm0), List.append_nil]; exact ⟨_, rfl, fns_of HO.out HI.out, HR.out, HS.out⟩)
      have hx : ¬ ((xs.length : Int) < N) := by omega
      have hx' : N ≤ xs.length := by omega
      go_wp2_with fail
      go_ret
      exact PO.out
    · have hx : xs.length < N := by omega
      cases hst : st.2
      · rw [hst] at c1
        obtain ⟨m', rfl⟩ : ∃ m', m = m' + 1 := ⟨m - 1, by omega⟩
        have HN := Lib.hid (list_next rdFn m' hst)
        clear hst
        go_wp2_with fail
        refine (rfunc_any HR.out (T.upon HS.out ⟨by omega, by omega⟩) hT).mono ?_
        rintro e w1 ⟨sv, rfl, hnew, hr, hu⟩
        obtain ⟨⟨⟨qo, qa, ql⟩, st1⟩, hq⟩ : ∃ x, rdFn st = x := ⟨_, rfl⟩
        have HN2 := HN.out
        rw [hq] at hr HN2 hnew
        rw [hq]
        simp only at hr HN2 hnew ⊢
        obtain ⟨qx, qc, rfl⟩ := owns_slice hnew
        have HN3 := Lib.hid HN2
        have ho1 : w1.ownsRow w.heap.size 45 3 (.slice a xs.length c) xs.length (xs.flatMap fnC) := owns_upon HO.out hu fun g hg e => by
          have := own_ge HO.out g hg; omega
        obtain ⟨W, hW⟩ : ∃ W, w1.alloc (.cells #[.int .i64 qo, .int .i64 qa, .slice qx ql.length qc] 45) = W := ⟨_, rfl⟩
        have hbW : Below w1.heap.size w1 W := by rw [← hW]; exact (Below.refl _ _).alloc (Nat.le_refl _) _
        have ROW := Lib.hid (show rowAt W w1.heap.size 45 [.int .i64 qo, .int .i64 qa, .slice qx ql.length qc] by rw [← hW]; exact rowAt.made _ _ _)
        have OWN := Lib.hid (owns_upon ho1 (upon_of_below hbW) fun _ _ t => t)
        have RW := Lib.hid (hr.below hbW)
        have SW := Lib.hid ((HS.out.more hu).below hbW)
        have zW := Lib.hid (Nat.le_trans SW.out.size (Nat.le_refl _))
        have STEP := Lib.hid (fun (w2 : World) (v2 : Value) (hg : W.grownBy w2 (Value.slice a xs.length c).ownBlock) hb2 => inner_step (x := ((qo, qa, ql) : PFn)) (v2 := v2) HI.out HO.out hu hnew (fun g hg => Nat.lt_of_lt_of_le hg HS.out.size) hplt hbW hg hb2)
        clear hr hu ho1 hbW HN2 hq hnew
        go_wp2_with (at_builtin; refine wpList_append_w (by rfl) _ _ _ (by rfl) w.heap.size 45 i0 (.agg #[.int .i64 0, .int .i64 0, .slice none 0 0]) 3 40 under_fns hi hz0 hz1 hz2 (by rfl) (by decide) (.slice a xs.length c) xs.length (xs.flatMap fnC) (by rfl) OWN.out _ 1 1 [.int .i64 qo, .int .i64 qa, .slice qx ql.length qc] (by rfl) (by rfl) (src_row ROW.out 1) (by simp [Value.oneCell']) (by unfold maxLen; omega) (by omega) zW.out ?_; intro v' w2 hown2 hgrow2 hb2; obtain ⟨a2, c2, rfl⟩ := owns_slice hown2; have HOW2 := Lib.hid hown2; have HGR2 := Lib.hid hgrow2; have HB2 := Lib.hid hb2; clear hown2 hgrow2 hb2)
        clear hW
        obtain ⟨x1, x2⟩ := list_grown OWN.out HGR2.out RW.out SW.out hplt
        have X1 := Lib.hid x1
        have X3 := Lib.hid (STEP.out _ _ HGR2.out HB2.out)
        have X2 := Lib.hid x2
        clear x1 x2
        go_wp2_with fail
        go_roundw
        case rel => exact ⟨xs ++ [((qo, qa, ql), .slice qx ql.length qc)], m', st1, by simp; omega, Lib.hid (by rw [List.length_append, List.flatMap_append]; exact HOW2.out), X3, X1, X2, Lib.hid (by rw [HL.out, HN3.out]; simp)⟩
        case measure => simp [slLen]; omega
      · rw [hst] at c1
        have PO := Lib.hid (show ManyPost fnAt 3 B0 w p (rdList rdFn N s).1 (rdList rdFn N s).2 (.returned (.slice a xs.length c)) wr from by
          rw [HL.out, list_done _ m (.inr hst), List.append_nil]; exact ⟨_, rfl, fns_of HO.out HI.out, HR.out, HS.out⟩)
        clear hst
        go_wp2_with fail
        go_ret
        exact PO.out
set_option maxHeartbeats 4000000 in
theorem forms_any {B0 : Nat} {w : World} {p : Nat} {s : Rd} (h : RdAt B0 w p s) (N : Nat) (hN : N ≤ 70000) :
    Calls Tryd.prog 43 #[.pointer (some ⟨p, 0, none⟩), .int .i64 N, .func (.func 44) #[.pointer (some ⟨p, 0, none⟩)] #[]] w
      (ManyPost fmAt 4 B0 w p (rdList rdFm N s).1 (rdList rdFm N s).2) := by
  have hlow := h.low
  have hplt := h.lt
  obtain ⟨i0, hi, hz0, hz1, hz2⟩ := info_parts info_fm
  go_enter Tryd.func43, Tryd.ntmps43
  go_wp2_with fail
  go_loopw [7] (fun v wr => ∃ (xs : List (PFm × Value)) (m : Nat) (st : Rd), xs.length + m = N ∧ Hid (wr.ownsRow w.heap.size 50 4 v xs.length (xs.flatMap fmC)) ∧ Hid (Inner (fun g => g < w.heap.size ∨ v.ownBlock = some g) wr (fun m : PFm => m.2.2.2.length) (fun m => intL m.2.2.2) xs) ∧ Hid (RdAt B0 wr p st) ∧ Hid (Since p w wr) ∧ Hid (rdList rdFm N s = (xs.map (·.1) ++ (rdList rdFm m st).1, (rdList rdFm m st).2))) (fun v _ => N - slLen v)
  case atStart => exact ⟨[], N, s, by simp, Lib.hid (World.ownsRow_nil _ _ _ 4), Lib.hid (fun y hy => by cases hy), Lib.hid h, Lib.hid (Upon.refl _ _), Lib.hid (by simp)⟩
  case round =>
    obtain ⟨xs, m, st, hm, HO, HI, HR, HS, HL⟩ := hrel
    obtain ⟨a, c, rfl⟩ := owns_slice HO.out
    obtain ⟨c1, -⟩ := HR.out.cells
    by_cases hm0 : m = 0
    · have PO := Lib.hid (show ManyPost fmAt 4 B0 w p (rdList rdFm N s).1 (rdList rdFm N s).2 (.returned (.slice a xs.length c)) wr from by
        rw [HL.out, list_done _ m (.inl hm0), List.append_nil]; exact ⟨_, rfl, fms_of HO.out HI.out, HR.out, HS.out⟩)
      have hx : ¬ ((xs.length : Int) < N) := by omega
      have hx' : N ≤ xs.length := by omega
      go_wp2_with fail
      go_ret
      exact PO.out
    · have hx : xs.length < N := by omega
      cases hst : st.2
      · rw [hst] at c1
        obtain ⟨m', rfl⟩ : ∃ m', m = m' + 1 := ⟨m - 1, by omega⟩
        have HN := Lib.hid (list_next rdFm m' hst)
        clear hst
        go_wp2_with fail
        refine (rform_any HR.out).mono ?_
        rintro e w1 ⟨sv, rfl, hnew, hr, hu⟩
        obtain ⟨⟨⟨qo, qa, qb, ql⟩, st1⟩, hq⟩ : ∃ x, rdFm st = x := ⟨_, rfl⟩
        have HN2 := HN.out
        rw [hq] at hr HN2 hnew
        rw [hq]
        simp only at hr HN2 hnew ⊢
        obtain ⟨qx, qc, rfl⟩ := owns_slice hnew
        have HN3 := Lib.hid HN2
        have ho1 : w1.ownsRow w.heap.size 50 4 (.slice a xs.length c) xs.length (xs.flatMap fmC) := owns_upon HO.out hu fun g hg e => by
          have := own_ge HO.out g hg; omega
        obtain ⟨W, hW⟩ : ∃ W, w1.alloc (.cells #[.int .i64 qo, .int .i64 qa, .int .i64 qb, .slice qx ql.length qc] 50) = W := ⟨_, rfl⟩
        have hbW : Below w1.heap.size w1 W := by rw [← hW]; exact (Below.refl _ _).alloc (Nat.le_refl _) _
        have ROW := Lib.hid (show rowAt W w1.heap.size 50 [.int .i64 qo, .int .i64 qa, .int .i64 qb, .slice qx ql.length qc] by rw [← hW]; exact rowAt.made _ _ _)
        have OWN := Lib.hid (owns_upon ho1 (upon_of_below hbW) fun _ _ t => t)
        have RW := Lib.hid (hr.below hbW)
        have SW := Lib.hid ((HS.out.more hu).below hbW)
        have zW := Lib.hid (Nat.le_trans SW.out.size (Nat.le_refl _))
        have STEP := Lib.hid (fun (w2 : World) (v2 : Value) (hg : W.grownBy w2 (Value.slice a xs.length c).ownBlock) hb2 => inner_step (x := ((qo, qa, qb, ql) : PFm)) (v2 := v2) HI.out HO.out hu hnew (fun g hg => Nat.lt_of_lt_of_le hg HS.out.size) hplt hbW hg hb2)
        clear hr hu ho1 hbW HN2 hq hnew
        go_wp2_with (at_builtin; refine wpList_append_w (by rfl) _ _ _ (by rfl) w.heap.size 50 i0 (.agg #[.int .i64 0, .int .i64 0, .int .i64 0, .slice none 0 0]) 4 48 under_fms hi hz0 hz1 hz2 (by rfl) (by decide) (.slice a xs.length c) xs.length (xs.flatMap fmC) (by rfl) OWN.out _ 1 1 [.int .i64 qo, .int .i64 qa, .int .i64 qb, .slice qx ql.length qc] (by rfl) (by rfl) (src_row ROW.out 1) (by simp [Value.oneCell']) (by unfold maxLen; omega) (by omega) zW.out ?_; intro v' w2 hown2 hgrow2 hb2; obtain ⟨a2, c2, rfl⟩ := owns_slice hown2; have HOW2 := Lib.hid hown2; have HGR2 := Lib.hid hgrow2; have HB2 := Lib.hid hb2; clear hown2 hgrow2 hb2)
        clear hW
        obtain ⟨x1, x2⟩ := list_grown OWN.out HGR2.out RW.out SW.out hplt
        have X1 := Lib.hid x1
        have X3 := Lib.hid (STEP.out _ _ HGR2.out HB2.out)
        have X2 := Lib.hid x2
        clear x1 x2
        go_wp2_with fail
        go_roundw
        case rel => exact ⟨xs ++ [((qo, qa, qb, ql), .slice qx ql.length qc)], m', st1, by simp; omega, Lib.hid (by rw [List.length_append, List.flatMap_append]; exact HOW2.out), X3, X1, X2, Lib.hid (by rw [HL.out, HN3.out]; simp)⟩
        case measure => simp [slLen]; omega
      · rw [hst] at c1
        have PO := Lib.hid (show ManyPost fmAt 4 B0 w p (rdList rdFm N s).1 (rdList rdFm N s).2 (.returned (.slice a xs.length c)) wr from by
          rw [HL.out, list_done _ m (.inr hst), List.append_nil]; exact ⟨_, rfl, fms_of HO.out HI.out, HR.out, HS.out⟩)
        clear hst
        go_wp2_with fail
        go_ret
        exact PO.out
end Go.Proofs.YtabdbciebhmflaaDoor
