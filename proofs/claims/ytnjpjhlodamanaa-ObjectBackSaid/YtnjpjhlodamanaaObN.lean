/-
  A heap is looked at ('look').
  Conditions: as each states.
-/
import Derived.Test.YtnjpjhlodamanaaObP
import Derived.Test.YtnjpjhlodamanaaObK
import Derived.Test.YtnjpjhlodamanaaObL
import Derived.Deep.DeepCutAuto
import Derived.Deep.CutBlock
import Derived.Deep.RegionHeld3
namespace Go.Proofs.Ytnjpjhlodamanaa
open Go.ChangeShapes Go.WideShapes Go.ChangeAt Go.RowKit
set_option linter.unusedVariables false
set_option linter.unusedSimpArgs false
set_option maxRecDepth 100000

theorem under_bools : Try.prog.underlying 71 = some (.slice 4) := by kernel_rfl
theorem info_bool' : (Try.prog.info? 4).map (fun i => (i.zero, i.size, i.bytes)) = some (some (.bool false), 1, 1) := by kernel_rfl
theorem make_bools (n : Nat) (hn : n ≤ 100000) (w : World) :
    (Instr.makeSlice 71 (.int .i64 (n : Int)) (.int .i64 (n : Int))).run Try.prog w = .ok (.slice (some ⟨w.heap.size, 0, none⟩) n n) (w.alloc (.cells ⟨List.replicate n (.bool false)⟩ 4)) := by
  obtain ⟨i, hi, hz0, hz1, hz2⟩ := info_parts info_bool'
  have hb : (i.bytes : Int) * (n : Int) ≤ 281474976710656 := by rw [hz2]; omega
  have hr := run_make (P := Try.prog) w 71 4 i (.bool false) under_bools hi hz0 .i64 .i64 n n (by omega) (by omega) hb (by omega)
  simp only [Int.toNat_natCast] at hr
  rw [hr, hz1, Nat.mul_one]
  have e : madeCells (Value.bool false).cells n = ⟨List.replicate n (.bool false)⟩ := by
    apply Array.toList_inj.1
    exact toList_madeCells_one _ _
  rw [e]

abbrev zeroView : Value := .agg #[.int .i64 0, .slice none 0 0, .slice none 0 0]

theorem look_out (pv : Value) (base half space top : Int) (w : World) (pa : Option Addr) (hp : pv = .pointer pa)
    (hl : ∀ w : World, Calls Try.prog 45 #[pv, heapV base half space top] w fun e w' => e = .returned (.bool false) ∧ Below w.heap.size w w') :
    Calls Try.prog 29 #[pv, heapV base half space top] w fun e w' => e = .returned (.tuple #[zeroView, .bool false]) ∧ Below w.heap.size w w' := by
  subst hp
  have HL := Lib.hid hl
  clear hl
  go_enter Try.func29, Try.ntmps29
  go_wp2_with fail
  refine (HL.out _).mono ?_
  rintro e w1 ⟨rfl, b1⟩
  obtain ⟨hc1, hf1⟩ := bcell b1
  have hz := b1.size
  simp at hz
  have hz1 : w.heap.size + 1 < w1.heap.size := by omega
  go_wp2
  refine bodyPost_ret (v := .tuple #[zeroView, .bool false]) (by simp [results, Try.results29, go_sem, hc1, hz1]) rfl ⟨rfl, ?_⟩
  repeat (first | exact Below.refl _ _ | refine bl_alloc ?_ _ | refine bl_drew ?_ | refine bl_set ?_ (by simp) _ | refine bl_call ?_ b1)

/-- The view that was laid: words, marks, the struct itself at bv. -/
structure Laid (w0 : World) (bv bw bh : Nat) (first : Int) (n : Nat) (ws : List Int) (hs : List Bool) (w : World) : Prop where
  view : rowAt w bv 73 [.int .i64 first, .slice (some ⟨bw, 0, none⟩) n n, .slice (some ⟨bh, 0, none⟩) n n]
  words : rowAt w bw 39 (ws.map (Value.int .u64))
  marks : rowAt w bh 4 (bools hs)
  v1 : bv ≠ bw
  v2 : bv ≠ bh
  wh : bw ≠ bh
  lw : ws.length = n
  lh : hs.length = n
  low : w0.heap.size ≤ bv ∧ w0.heap.size ≤ bw ∧ w0.heap.size ≤ bh
  below : Below w0.heap.size w0 w

def LaidX (w0 : World) (first : Int) (n : Nat) (v : Value) (w : World) : Prop :=
  ∃ bv bw bh, v = .pointer (some ⟨bv, 0, none⟩) ∧ Laid w0 bv bw bh first n (List.replicate n 0) (List.replicate n false) w

theorem laid_wbv (w1 : World) (Fi T : Nat) : LaidX w1 (Fi : Int) T (.pointer (some ⟨w1.heap.size + 1 + 1, 0, none⟩)) ((((w1.alloc (.cells (Array.replicate T (.int .u64 0)) 39)).alloc (.cells (Array.replicate T (.bool false)) 4)).alloc (.cells #[.int .i64 (Fi : Int), .slice (some ⟨w1.heap.size, 0, none⟩) T T, .slice (some ⟨w1.heap.size + 1, 0, none⟩) T T] 73)).drew) := by
  refine ⟨w1.heap.size + 1 + 1, w1.heap.size, w1.heap.size + 1, rfl, ⟨?_, ?_, ?_, by omega, by omega, by omega, by simp, by simp, ⟨by omega, by omega, by omega⟩, bl_drew (bl_alloc (bl_alloc (bl_alloc (Below.refl _ _) _) _) _)⟩⟩
  · exact rowAt.drew (rowAt.made_at (w := (w1.alloc (.cells (Array.replicate T (.int .u64 0)) 39)).alloc (.cells (Array.replicate T (.bool false)) 4)) _ _ (by simp))
  · rw [List.map_replicate]
    exact rowAt.drew (((rowAt.made_at (w := w1) _ _ (by simp)).alloc _).alloc _)
  · show rowAt _ _ _ (List.map Value.bool (List.replicate T false))
    rw [List.map_replicate]
    exact rowAt.drew ((rowAt.made_at (w := w1.alloc (.cells (Array.replicate T (.int .u64 0)) 39)) _ _ (by simp)).alloc _)
theorem laid_wvb (w1 : World) (Fi T : Nat) : LaidX w1 (Fi : Int) T (.pointer (some ⟨w1.heap.size + 1, 0, none⟩)) ((((w1.alloc (.cells (Array.replicate T (.int .u64 0)) 39)).alloc (.cells #[.int .i64 (Fi : Int), .slice (some ⟨w1.heap.size, 0, none⟩) T T, .slice (some ⟨w1.heap.size + 1 + 1, 0, none⟩) T T] 73)).alloc (.cells (Array.replicate T (.bool false)) 4)).drew) := by
  refine ⟨w1.heap.size + 1, w1.heap.size, w1.heap.size + 1 + 1, rfl, ⟨?_, ?_, ?_, by omega, by omega, by omega, by simp, by simp, ⟨by omega, by omega, by omega⟩, bl_drew (bl_alloc (bl_alloc (bl_alloc (Below.refl _ _) _) _) _)⟩⟩
  · exact rowAt.drew ((rowAt.made_at (w := w1.alloc (.cells (Array.replicate T (.int .u64 0)) 39)) _ _ (by simp)).alloc _)
  · rw [List.map_replicate]
    exact rowAt.drew (((rowAt.made_at (w := w1) _ _ (by simp)).alloc _).alloc _)
  · show rowAt _ _ _ (List.map Value.bool (List.replicate T false))
    rw [List.map_replicate]
    exact rowAt.drew (rowAt.made_at (w := (w1.alloc (.cells (Array.replicate T (.int .u64 0)) 39)).alloc (.cells #[.int .i64 (Fi : Int), .slice (some ⟨w1.heap.size, 0, none⟩) T T, .slice (some ⟨w1.heap.size + 1 + 1, 0, none⟩) T T] 73)) _ _ (by simp))
theorem laid_bwv (w1 : World) (Fi T : Nat) : LaidX w1 (Fi : Int) T (.pointer (some ⟨w1.heap.size + 1 + 1, 0, none⟩)) ((((w1.alloc (.cells (Array.replicate T (.bool false)) 4)).alloc (.cells (Array.replicate T (.int .u64 0)) 39)).alloc (.cells #[.int .i64 (Fi : Int), .slice (some ⟨w1.heap.size + 1, 0, none⟩) T T, .slice (some ⟨w1.heap.size, 0, none⟩) T T] 73)).drew) := by
  refine ⟨w1.heap.size + 1 + 1, w1.heap.size + 1, w1.heap.size, rfl, ⟨?_, ?_, ?_, by omega, by omega, by omega, by simp, by simp, ⟨by omega, by omega, by omega⟩, bl_drew (bl_alloc (bl_alloc (bl_alloc (Below.refl _ _) _) _) _)⟩⟩
  · exact rowAt.drew (rowAt.made_at (w := (w1.alloc (.cells (Array.replicate T (.bool false)) 4)).alloc (.cells (Array.replicate T (.int .u64 0)) 39)) _ _ (by simp))
  · rw [List.map_replicate]
    exact rowAt.drew ((rowAt.made_at (w := w1.alloc (.cells (Array.replicate T (.bool false)) 4)) _ _ (by simp)).alloc _)
  · show rowAt _ _ _ (List.map Value.bool (List.replicate T false))
    rw [List.map_replicate]
    exact rowAt.drew (((rowAt.made_at (w := w1) _ _ (by simp)).alloc _).alloc _)
theorem laid_bvw (w1 : World) (Fi T : Nat) : LaidX w1 (Fi : Int) T (.pointer (some ⟨w1.heap.size + 1, 0, none⟩)) ((((w1.alloc (.cells (Array.replicate T (.bool false)) 4)).alloc (.cells #[.int .i64 (Fi : Int), .slice (some ⟨w1.heap.size + 1 + 1, 0, none⟩) T T, .slice (some ⟨w1.heap.size, 0, none⟩) T T] 73)).alloc (.cells (Array.replicate T (.int .u64 0)) 39)).drew) := by
  refine ⟨w1.heap.size + 1, w1.heap.size + 1 + 1, w1.heap.size, rfl, ⟨?_, ?_, ?_, by omega, by omega, by omega, by simp, by simp, ⟨by omega, by omega, by omega⟩, bl_drew (bl_alloc (bl_alloc (bl_alloc (Below.refl _ _) _) _) _)⟩⟩
  · exact rowAt.drew ((rowAt.made_at (w := w1.alloc (.cells (Array.replicate T (.bool false)) 4)) _ _ (by simp)).alloc _)
  · rw [List.map_replicate]
    exact rowAt.drew (rowAt.made_at (w := (w1.alloc (.cells (Array.replicate T (.bool false)) 4)).alloc (.cells #[.int .i64 (Fi : Int), .slice (some ⟨w1.heap.size + 1 + 1, 0, none⟩) T T, .slice (some ⟨w1.heap.size, 0, none⟩) T T] 73)) _ _ (by simp))
  · show rowAt _ _ _ (List.map Value.bool (List.replicate T false))
    rw [List.map_replicate]
    exact rowAt.drew (((rowAt.made_at (w := w1) _ _ (by simp)).alloc _).alloc _)
theorem laid_vwb (w1 : World) (Fi T : Nat) : LaidX w1 (Fi : Int) T (.pointer (some ⟨w1.heap.size, 0, none⟩)) ((((w1.alloc (.cells #[.int .i64 (Fi : Int), .slice (some ⟨w1.heap.size + 1, 0, none⟩) T T, .slice (some ⟨w1.heap.size + 1 + 1, 0, none⟩) T T] 73)).alloc (.cells (Array.replicate T (.int .u64 0)) 39)).alloc (.cells (Array.replicate T (.bool false)) 4)).drew) := by
  refine ⟨w1.heap.size, w1.heap.size + 1, w1.heap.size + 1 + 1, rfl, ⟨?_, ?_, ?_, by omega, by omega, by omega, by simp, by simp, ⟨by omega, by omega, by omega⟩, bl_drew (bl_alloc (bl_alloc (bl_alloc (Below.refl _ _) _) _) _)⟩⟩
  · exact rowAt.drew (((rowAt.made_at (w := w1) _ _ (by simp)).alloc _).alloc _)
  · rw [List.map_replicate]
    exact rowAt.drew ((rowAt.made_at (w := w1.alloc (.cells #[.int .i64 (Fi : Int), .slice (some ⟨w1.heap.size + 1, 0, none⟩) T T, .slice (some ⟨w1.heap.size + 1 + 1, 0, none⟩) T T] 73)) _ _ (by simp)).alloc _)
  · show rowAt _ _ _ (List.map Value.bool (List.replicate T false))
    rw [List.map_replicate]
    exact rowAt.drew (rowAt.made_at (w := (w1.alloc (.cells #[.int .i64 (Fi : Int), .slice (some ⟨w1.heap.size + 1, 0, none⟩) T T, .slice (some ⟨w1.heap.size + 1 + 1, 0, none⟩) T T] 73)).alloc (.cells (Array.replicate T (.int .u64 0)) 39)) _ _ (by simp))
theorem laid_vbw (w1 : World) (Fi T : Nat) : LaidX w1 (Fi : Int) T (.pointer (some ⟨w1.heap.size, 0, none⟩)) ((((w1.alloc (.cells #[.int .i64 (Fi : Int), .slice (some ⟨w1.heap.size + 1 + 1, 0, none⟩) T T, .slice (some ⟨w1.heap.size + 1, 0, none⟩) T T] 73)).alloc (.cells (Array.replicate T (.bool false)) 4)).alloc (.cells (Array.replicate T (.int .u64 0)) 39)).drew) := by
  refine ⟨w1.heap.size, w1.heap.size + 1 + 1, w1.heap.size + 1, rfl, ⟨?_, ?_, ?_, by omega, by omega, by omega, by simp, by simp, ⟨by omega, by omega, by omega⟩, bl_drew (bl_alloc (bl_alloc (bl_alloc (Below.refl _ _) _) _) _)⟩⟩
  · exact rowAt.drew (((rowAt.made_at (w := w1) _ _ (by simp)).alloc _).alloc _)
  · rw [List.map_replicate]
    exact rowAt.drew (rowAt.made_at (w := (w1.alloc (.cells #[.int .i64 (Fi : Int), .slice (some ⟨w1.heap.size + 1 + 1, 0, none⟩) T T, .slice (some ⟨w1.heap.size + 1, 0, none⟩) T T] 73)).alloc (.cells (Array.replicate T (.bool false)) 4)) _ _ (by simp))
  · show rowAt _ _ _ (List.map Value.bool (List.replicate T false))
    rw [List.map_replicate]
    exact rowAt.drew ((rowAt.made_at (w := w1.alloc (.cells #[.int .i64 (Fi : Int), .slice (some ⟨w1.heap.size + 1 + 1, 0, none⟩) T T, .slice (some ⟨w1.heap.size + 1, 0, none⟩) T T] 73)) _ _ (by simp)).alloc _)

/-- What 'look' tells of a heap whose numbers are right. -/
def Looked (A : Ar) (base half space : Int) (T : Nat) (w : World) (e : Ending) (w' : World) : Prop :=
  Below w.heap.size w w' ∧ ((∃ obs bw bh, A.objs base half space T = some obs ∧ e = .returned (.tuple #[viewV (space * half) (some ⟨bw, 0, none⟩) (some ⟨bh, 0, none⟩) T T, .bool true]) ∧ rowAt w' bw 39 ((flat obs).map (Value.int .u64)) ∧ rowAt w' bh 4 (bools (marks obs)) ∧ (flat obs).length = T) ∨
    (A.objs base half space T = none ∧ e = .returned (.tuple #[zeroView, .bool false])))

theorem Laid.set_word {w0 w : World} {bv bw bh : Nat} {first : Int} {n : Nat} {ws : List Int} {hs : List Bool} (h : Laid w0 bv bw bh first n ws hs w) (k : Nat) (x : Int) : Laid w0 bv bw bh first n (ws.set k x) hs (w.setCell ⟨bw, k, none⟩ (.int .u64 x)) :=
  ⟨h.view.other _ _ h.v1, by rw [List.map_set]; exact h.words.set k _, h.marks.other _ _ h.wh.symm, h.v1, h.v2, h.wh, by rw [List.length_set]; exact h.lw, h.lh, h.low, bl_set h.below h.low.2.1 _⟩
theorem Laid.set_mark {w0 w : World} {bv bw bh : Nat} {first : Int} {n : Nat} {ws : List Int} {hs : List Bool} (h : Laid w0 bv bw bh first n ws hs w) (k : Nat) (b : Bool) : Laid w0 bv bw bh first n ws (hs.set k b) (w.setCell ⟨bh, k, none⟩ (.bool b)) :=
  ⟨h.view.other _ _ h.v2, h.words.other _ _ h.wh, by show rowAt _ _ _ (List.map Value.bool (hs.set k b)); rw [List.map_set]; exact h.marks.set k _, h.v1, h.v2, h.wh, h.lw, by rw [List.length_set]; exact h.lh, h.low, bl_set h.below h.low.2.2 _⟩
theorem Laid.on {w0 w w' : World} {bv bw bh : Nat} {first : Int} {n : Nat} {ws : List Int} {hs : List Bool} (h : Laid w0 bv bw bh first n ws hs w) (hb : Below w.heap.size w w') : Laid w0 bv bw bh first n ws hs w' :=
  ⟨h.view.below hb h.view.lt, h.words.below hb h.words.lt, h.marks.below hb h.marks.lt, h.v1, h.v2, h.wh, h.lw, h.lh, h.low, bl_call h.below hb⟩
theorem Laid.draw {w0 w : World} {bv bw bh : Nat} {first : Int} {n : Nat} {ws : List Int} {hs : List Bool} (h : Laid w0 bv bw bh first n ws hs w) : Laid w0 bv bw bh first n ws hs w.drew := h.on (bl_drew (Below.refl _ _))
theorem Laid.word {w0 w : World} {bv bw bh : Nat} {first : Int} {n : Nat} {ws : List Int} {hs : List Bool} (h : Laid w0 bv bw bh first n ws hs w) {k : Nat} {x : Int} (hk : ws[k]? = some x) : w.cell? ⟨bw, k, none⟩ = some (.int .u64 x) := by
  rw [h.words.cell, List.getElem?_map, hk]
  rfl
theorem Laid.mark {w0 w : World} {bv bw bh : Nat} {first : Int} {n : Nat} {ws : List Int} {hs : List Bool} (h : Laid w0 bv bw bh first n ws hs w) {k : Nat} {b : Bool} (hk : hs[k]? = some b) : w.cell? ⟨bh, k, none⟩ = some (.bool b) := by
  rw [h.marks.cell, List.getElem?_map, hk]
  rfl
theorem Laid.three {w0 w : World} {bv bw bh : Nat} {first : Int} {n : Nat} {ws : List Int} {hs : List Bool} (h : Laid w0 bv bw bh first n ws hs w) :
    w.cell? ⟨bv, 0, none⟩ = some (.int .i64 first) ∧ w.cell? ⟨bv, 1, none⟩ = some (.slice (some ⟨bw, 0, none⟩) n n) ∧ w.cell? ⟨bv, 2, none⟩ = some (.slice (some ⟨bh, 0, none⟩) n n) :=
  ⟨(h.view.cell 0).trans rfl, (h.view.cell 1).trans rfl, (h.view.cell 2).trans rfl⟩
theorem fill_step (S : List Int) (k T : Nat) (x : Int) (hk : k < T) (hS : S[k]? = some x) : (S.take k ++ List.replicate (T - k) 0).set k x = S.take (k + 1) ++ List.replicate (T - (k + 1)) 0 := by
  have hl : k < S.length := (List.getElem?_eq_some_iff.1 hS).1
  have e : List.replicate (T - k) (0 : Int) = 0 :: List.replicate (T - (k + 1)) 0 := by
    rw [show T - k = (T - (k + 1)) + 1 by omega]; rfl
  have h1 : (S.take k).length = k := by rw [List.length_take]; omega
  rw [e, List.set_append, if_neg (by omega), h1, Nat.sub_self, List.set_cons_zero, List.take_add_one, hS]
  simp

theorem flat_at {obs : List Ob} {m : Nat} {o : Ob} (h : objAt obs m = some o) : (flat obs)[m]? = some o.head ∧ ∀ j (hj : j < o.body.length), (flat obs)[m + 1 + j]? = some o.body[j] := by
  obtain ⟨rest, h1, h2⟩ := objAt_words h
  have g : ∀ i, (flat obs)[m + i]? = (o.lay ++ rest)[i]? := fun i => by rw [← h1, List.getElem?_drop]
  refine ⟨by have := g 0; rw [Nat.add_zero] at this; rw [this]; rfl, fun j hj => ?_⟩
  rw [show m + 1 + j = m + (j + 1) by omega, g (j + 1)]
  simp only [Ob.lay, List.cons_append, List.getElem?_cons_succ]
  rw [List.getElem?_append_left hj, List.getElem?_eq_getElem hj]

theorem Ob.fs_nil {o : Ob} (h : o.may = true) (hk : o.kind = 2) : o.fs = [] := by
  have h1 := (Ob.may_split h).1
  unfold hasH at h1
  rw [if_pos hk] at h1
  exact List.length_eq_zero_iff.1 (of_decide_eq_true h1)
theorem Ob.tx_nil {o : Ob} (h : o.may = true) (hk : o.kind ≠ 2) : o.tx = [] := by
  have h1 := (Ob.may_split h).1
  unfold hasH at h1
  rw [if_neg hk] at h1
  exact List.length_eq_zero_iff.1 (of_decide_eq_true h1)

theorem fields_reads {obs : List Ob} {m : Nat} {o : Ob} (h : objAt obs m = some o) (hok : AllOk obs) {w : World} {bw : Nat} (hw : ∀ i x, (flat obs)[i]? = some x → w.cell? ⟨bw, i, none⟩ = some (.int .u64 x)) (n c : Nat) (hn : n = (flat obs).length) :
    readsAt w (fieldsV o.kind (bodyA bw m n) (longH o.kind o.size) c) o.fs.length (wordsL o.fs) := by
  have hm := (hok o (objAt_mem obs m o h)).1
  unfold fieldsV
  by_cases hk : o.kind = 2
  · rw [if_pos hk, Ob.fs_nil hm hk]
    exact ⟨none, 0, rfl, .inl rfl⟩
  · rw [if_neg hk]
    have hl : longH o.kind o.size = o.fs.length := by simp [longH, hk, Ob.size, sizeH]
    rw [hl]
    by_cases h0 : o.fs.length = 0
    · exact ⟨_, _, rfl, .inl h0⟩
    · obtain ⟨_, _, h2⟩ := objAt_words h
      have hw2 : o.words = 1 + o.fs.length := by unfold Ob.words Ob.long; rw [hl]
      have e : bodyA bw m n = some ⟨bw, m + 1, none⟩ := by unfold bodyA; rw [if_neg (by omega)]
      rw [e]
      refine ⟨_, _, rfl, .inr ⟨bw, m + 1, rfl, fun j u hj => ?_⟩⟩
      rw [List.getElem?_map, Option.map_eq_some_iff] at hj
      obtain ⟨y, hy, rfl⟩ := hj
      have hb : o.body = o.fs := by simp [Ob.body, hk]
      have hjl : j < o.body.length := by rw [hb]; exact (List.getElem?_eq_some_iff.1 hy).1
      refine hw _ _ ?_
      rw [(flat_at h).2 j hjl]
      simp only [hb]
      rw [← List.getElem?_eq_getElem, hy]

set_option maxHeartbeats 16000000 in
theorem look_yes {w : World} {p : Nat} {F : Nat → Prop} {A : Ar} (hA : Held w p F A) (base half space : Int) (T : Nat) (hlies : A.liesB base half space T = true) :
    Calls Try.prog 29 #[.pointer (some ⟨p, 0, none⟩), heapV base half space T] w (Looked A base half space T w) := by
  have hn := lies_nums hlies
  obtain ⟨Fi, hFi⟩ : ∃ Fi : Nat, space * half = (Fi : Int) := ⟨(space * half).toNat, by omega⟩
  have hm1 : IntKind.i64.wrap (space * half) = (Fi : Int) := by rw [IntKind.wrap_i64]; omega
  have hm2 : wrap64 (space * half) = (Fi : Int) := by unfold wrap64; omega
  have hFi2 : Fi ≤ 2000 := by omega
  have hT : T ≤ 2000 := by omega
  have HFI := Lib.hid hFi
  have HN := Lib.hid hn
  have hsl := semi_length hA.ok hlies
  have hsg := semi_get hA.ok hlies
  have hsf := semi_fit hA.ok base half space T
  rw [hFi] at hsg
  rw [Int.toNat_natCast] at hsl hsg
  have HLIES := Lib.hid hlies
  generalize hS : A.semi base half space T = S at hsl hsg hsf
  have HS := Lib.hid hS
  have HSL := Lib.hid hsl
  have HSG := Lib.hid hsg
  have HSF := Lib.hid hsf
  have hmw := make_words T (by omega)
  have hmb := make_bools T (by omega)
  clear hFi hlies hS hsl hsg hsf hn
  have HA := Lib.hid hA
  clear hA
  go_enter Try.func29, Try.ntmps29
  go_wp2_with fail
  refine (lies_any (HA.out.below (bl_alloc (bl_alloc (Below.refl _ _) _) _)) base half space T).mono ?_
  rintro e w1 ⟨rfl, b1⟩
  rw [HLIES.out]
  obtain ⟨hc1, hf1⟩ := bcell b1
  have hz := b1.size
  simp at hz
  have hz0 : w.heap.size < w1.heap.size := by omega
  have hz1 : w.heap.size + 1 < w1.heap.size := by omega
  have hrow3 : rowAt w1 w.heap.size 33 [.int .i64 base, .int .i64 half, .int .i64 space, .int .i64 T] := ((rowAt.made w 33 [.int .i64 base, .int .i64 half, .int .i64 space, .int .i64 T]).alloc _).below b1 (by simp <;> omega)
  have hrow4 : rowAt w1 (w.heap.size + 1) 73 [.int .i64 0, .slice none 0 0, .slice none 0 0] := (rowAt.made_at (w := w.alloc (.cells #[.int .i64 base, .int .i64 half, .int .i64 space, .int .i64 T] 33)) 73 [.int .i64 0, .slice none 0 0, .slice none 0 0] (by simp)).below b1 (by simp <;> omega)
  have HB1 : Hid (Below w.heap.size w w1) := bl_call (bl_alloc (bl_alloc (Below.refl _ _) _) _) b1
  have e1 : w1.cell? ⟨w.heap.size, 1, none⟩ = some (.int .i64 half) := (hrow3.cell 1).trans rfl
  have e2 : w1.cell? ⟨w.heap.size, 2, none⟩ = some (.int .i64 space) := (hrow3.cell 2).trans rfl
  have e3 : w1.cell? ⟨w.heap.size, 3, none⟩ = some (.int .i64 T) := (hrow3.cell 3).trans rfl
  have R3 := Lib.hid hrow3
  have R4 := Lib.hid hrow4
  clear hc1 hf1 b1 hrow3 hrow4
  go_upto_region 3 with fail
  go_cut [6] (fun v6 wx => LaidX w1 (Fi : Int) T v6 wx)
  case first =>
    have hy1 : w.heap.size < w1.heap.size + 1 := by omega
    have hy2 : w.heap.size < w1.heap.size + 1 + 1 := by omega
    have hy3 : w.heap.size ≠ w1.heap.size := by omega
    have hy4 : w.heap.size ≠ w1.heap.size + 1 := by omega
    have hy5 : w.heap.size ≠ w1.heap.size + 1 + 1 := by omega
    go_wp2
    go_region_held3 (fun w' => w'.cell? ⟨w.heap.size, 1, none⟩ = some (.int .i64 half) ∧ w'.cell? ⟨w.heap.size, 2, none⟩ = some (.int .i64 space) ∧ w'.cell? ⟨w.heap.size, 3, none⟩ = some (.int .i64 T)) (first | exact ⟨e1, e2, e3⟩ | (refine ⟨?_, ?_, ?_⟩ <;> simp [go_sem, e1, e2, e3, hz0, hy1, hy2, hy3, hy4, hy5])) (fail)
    all_goals
      go_wp2
      go_meet
      first | exact laid_wbv _ _ _ | exact laid_wvb _ _ _ | exact laid_bwv _ _ _ | exact laid_bvw _ _ _ | exact laid_vwb _ _ _ | exact laid_vbw _ _ _
  case rest =>
    obtain ⟨bv, bw, bh, rfl, hl0⟩ := hcut
    have HL0 := Lib.hid hl0
    clear hl0 e1 e2 e3
    obtain ⟨t0, t1, t2⟩ := HL0.out.three
    go_wp2
    clear t0 t1 t2
    go_loopw [33] (fun i wr => ∃ k : Nat, k ≤ T ∧ i = .int .i64 k ∧ Hid (Laid w1 bv bw bh (Fi : Int) T (S.take k ++ List.replicate (T - k) 0) (List.replicate T false) wr)) (fun i _ => T - (intOf i).toNat)
    case atStart => exact ⟨0, Nat.zero_le _, rfl, by simpa [Hid] using HL0.out⟩
    case round =>
      obtain ⟨k, hk, rfl, HL⟩ := hrel
      obtain ⟨t0, t1, t2⟩ := HL.out.three
      have hbl := HL.out.below
      by_cases hlt : k < T
      · have c0 : wr.cell? ⟨w.heap.size, 0, none⟩ = some (.int .i64 base) := ((R3.out.below hbl hz0).cell 0).trans rfl
        have hwc : (wr.cell? ⟨bw, k, none⟩).isSome = true := by
          rw [HL.out.words.cell, List.getElem?_eq_getElem (by rw [List.length_map, HL.out.lw]; exact hlt)]
          rfl
        obtain ⟨v0, c1⟩ := Option.isSome_iff_exists.1 hwc
        have f1 : wr.frozen? ⟨bw, k, none⟩ = false := HL.out.words.free k
        have HAR : Hid (Held wr.drew p F A) := HA.out.below (bl_drew (bl_call HB1.out hbl))
        have q1 : IntKind.i64.wrap ((Fi : Int) + (k : Int)) = (Fi : Int) + (k : Int) := by rw [IntKind.wrap_i64]; omega
        have HSK := Lib.hid (HSG.out k hlt)
        have nb1 : bv ≠ bw := HL.out.v1
        have nb2 : w.heap.size ≠ bw := by have := HL.out.low.2.1; omega
        clear hwc hbl
        go_wp2
        go_region_held3 (fun w' => w'.cell? ⟨w.heap.size, 0, none⟩ = some (.int .i64 base) ∧ w'.cell? ⟨bv, 0, none⟩ = some (.int .i64 (Fi : Int)) ∧ w'.cell? ⟨bv, 1, none⟩ = some (.slice (some ⟨bw, 0, none⟩) T T)) (first | exact ⟨c0, t0, t1⟩ | (refine ⟨?_, ?_, ?_⟩ <;> simp [go_sem, c0, t0, t1, nb1, nb2]))
          ((refine (get_h HAR.out base ((Fi : Int) + (k : Int))).mono ?_; rintro e w3 ⟨rfl, rfl⟩))
        all_goals
          go_wp2
          go_roundw
          case rel =>
            refine ⟨k + 1, by omega, by go_num, ?_⟩
            have h1 := (HL.out.draw).set_word k (A.getW base ((Fi : Int) + (k : Int)))
            rw [fill_step S k T _ hlt HSK.out] at h1
            exact h1
          case measure => simp [intOf]; omega
      · obtain rfl : k = T := by omega
        have hl2 := HL.out
        rw [Nat.sub_self, List.replicate_zero, List.append_nil, List.take_of_length_le (by rw [HSL.out]; omega)] at hl2
        have HL2 := Lib.hid hl2
        clear hl2 hlt HL hbl
        go_wp2
        clear t0 t1 t2
        go_loopw [8] (fun i wr => ∃ (done : List Ob) (rest : List Int) (n : Nat), i = .int .i64 (n : Int) ∧ n ≤ k ∧ Hid (n = (flat done).length ∧ S = flat done ++ rest ∧ AllOk done ∧ Laid w1 bv bw bh (Fi : Int) k S (marks done ++ List.replicate (k - n) false) wr)) (fun i _ => k - (intOf i).toNat)
        case atStart => exact ⟨[], S, 0, rfl, Nat.zero_le _, rfl, rfl, (fun _ h => by cases h), by simpa [marks] using HL2.out⟩
        case round =>
          rename_i wr0
          obtain ⟨done, rest, n, rfl, hnk, HD⟩ := hrel
          obtain ⟨t0, t1, t2⟩ := HD.out.2.2.2.three
          by_cases hlt : n < k
          · have hrl : rest.length = k - n := by
              have h1 := congrArg List.length HD.out.2.1
              rw [HSL.out, List.length_append, ← HD.out.1] at h1
              omega
            obtain ⟨x, r, rfl⟩ : ∃ x r, rest = x :: r := by
              cases rest with
              | nil => simp at hrl; omega
              | cons x r => exact ⟨x, r, rfl⟩
            have hrl2 : k - n = r.length + 1 := by simpa using hrl.symm
            have hcw : ∀ (W : World), Below wr.heap.size wr W → ∀ j u, ((x :: r).map (Value.int .u64))[j]? = some u → W.cell? ⟨bw, n + j, none⟩ = some u := by
              intro W hb j u hj
              rw [List.getElem?_map, Option.map_eq_some_iff] at hj
              obtain ⟨y, hy, rfl⟩ := hj
              have hS2 : S[n + j]? = some y := by rw [HD.out.2.1, List.getElem?_append_right (by have := HD.out.1; omega), show n + j - (flat done).length = j by have := HD.out.1; omega]; exact hy
              exact (HD.out.2.2.2.on hb).word hS2
            have HWH := Lib.hid (fun W hb => whole_any x r (fun y hy => HSF.out y (by rw [HD.out.2.1]; exact List.mem_append_right _ hy)) (by omega) bw n (k - n) (by omega) W (hcw W hb))
            rw [← hrl2] at HWH
            have hkn : ¬ k = n := by omega
            have q1 : (n : Int) ≤ (k : Int) := by omega
            clear hcw hrl hrl2
            go_wp2_with fail
            refine (HWH.out _ (Below.refl _ _)).mono ?_
            rintro e w2 ⟨rfl, b2⟩
            have HL3 := Lib.hid (HD.out.2.2.2.on b2)
            cases hd : decode (x :: r) with
            | none =>
              have hpn : A.objs base half space (k : Int) = none := by
                unfold Ar.objs
                rw [if_pos HLIES.out, HS.out]
                have := parse_stop HD.out.2.2.1 hd S.length
                rw [← HD.out.2.1] at this
                rw [this]
              have HPN := Lib.hid hpn
              have hwv : wholeV (x :: r) = .tuple #[.int .i64 0, .bool false] := by simp [wholeV, hd]
              rw [hwv]
              have R42 := Lib.hid (R4.out.below HL3.out.below hz1)
              have z0 := (R42.out.cell 0)
              have z1 := (R42.out.cell 1)
              have z2 := (R42.out.cell 2)
              have f0 := R42.out.free 0
              have f1 := R42.out.free 1
              have f2 := R42.out.free 2
              simp only [List.getElem?_cons_zero, List.getElem?_cons_succ] at z0 z1 z2
              have HB2 : Hid (Below w.heap.size w w2) := bl_call HB1.out HL3.out.below
              clear hpn hwv hd HWH HD b2
              go_wp2
              refine bodyPost_ret (v := .tuple #[zeroView, .bool false]) (by simp [results, Try.results29, go_sem, z0, z1, z2]) rfl ⟨?_, .inr ⟨HPN.out, rfl⟩⟩
              repeat (first | exact Below.refl _ _ | exact HB2.out | refine bl_alloc ?_ _ | refine bl_drew ?_ | refine bl_set ?_ (by simp) _)
            | some o =>
              obtain ⟨d1, d2, d3⟩ := decode_some (fun y hy => HSF.out y (by rw [HD.out.2.1]; exact List.mem_append_right _ hy)) hd
              have hwv : wholeV (x :: r) = .tuple #[.int .i64 (o.words : Int), .bool true] := by simp [wholeV, hd]
              rw [hwv]
              have how : n + o.words ≤ k := by
                have h1 := congrArg List.length d3
                have h2 := congrArg List.length HD.out.2.1
                rw [HSL.out, List.length_append, ← HD.out.1, h1, List.length_append, o.lay_length] at h2
                omega
              have hw1 := o.words_pos
              have HDO := Lib.hid (And.intro d1 (And.intro d2 d3))
              have hm3 : (w2.cell? ⟨bh, n, none⟩).isSome = true := by
                rw [HL3.out.marks.cell, List.getElem?_eq_getElem (by rw [List.length_map, HL3.out.lh]; exact hlt)]
                rfl
              obtain ⟨v0, c1⟩ := Option.isSome_iff_exists.1 hm3
              have f1 : w2.frozen? ⟨bh, n, none⟩ = false := HL3.out.marks.free n
              obtain ⟨t0, t1, t2⟩ := HL3.out.three
              clear hwv hd HWH d1 d2 d3 hm3
              go_wp2
              go_roundw
              case rel =>
                refine ⟨done ++ [o], (x :: r).drop o.words, n + o.words, by simp, how, ?_⟩
                refine ⟨?_, ?_, ?_, ?_⟩
                · rw [flat_append, List.length_append, ← HD.out.1]
                  simp [flat, o.lay_length]
                · rw [flat_append, List.append_assoc]
                  have : flat [o] = o.lay := by simp [flat]
                  rw [this, ← HDO.out.2.2]
                  exact HD.out.2.1
                · intro q hq
                  rcases List.mem_append.1 hq with hq | hq
                  · exact HD.out.2.2.1 q hq
                  · rw [List.mem_singleton] at hq
                    subst hq
                    exact ⟨HDO.out.1, HDO.out.2.1⟩
                · have h1 := HL3.out.set_mark n true
                  rw [marks_step done o k n HD.out.1 how] at h1
                  exact h1
              case measure => simp [intOf]; omega
          · obtain rfl : n = k := by omega
            have hr0 : rest = [] := by
              have h1 := congrArg List.length HD.out.2.1
              rw [HSL.out, List.length_append, ← HD.out.1] at h1
              exact List.length_eq_zero_iff.1 (by omega)
            subst hr0
            have hSf : S = flat done := by have := HD.out.2.1; rwa [List.append_nil] at this
            have hl4 := HD.out.2.2.2
            rw [Nat.sub_self, List.replicate_zero, List.append_nil, hSf] at hl4
            have hpa : parse S.length S = some done := by rw [hSf]; exact parse_flat done _ HD.out.2.2.1 (Nat.le_refl _)
            have HPA : Hid (A.objs base half space (n : Int) = if fieldsOk (Fi : Int) done then some done else none) := by
              show A.objs base half space (n : Int) = _
              unfold Ar.objs
              rw [if_pos HLIES.out, HS.out, hpa, HFI.out]
            have HL4 := Lib.hid hl4
            have HOK := Lib.hid HD.out.2.2.1
            have HLEN : Hid ((flat done).length = n) := HD.out.1.symm
            clear hlt hSf hl4 hpa HL2 HD
            go_wp2
            clear t0 t1 t2
            go_loopw [78] (fun i wx => ∃ m : Nat, i = .int .i64 (m : Int) ∧ m ≤ n ∧ Hid (Laid w1 bv bw bh (Fi : Int) n (flat done) (marks done) wx ∧ ∀ j o, j < m → objAt done j = some o → o.fs.all (fieldB (Fi : Int) (marks done)) = true)) (fun i _ => n - (intOf i).toNat)
            case atStart => exact ⟨0, rfl, Nat.zero_le _, HL4.out, fun j o hj => by omega⟩
            case round =>
              obtain ⟨m, rfl, hmn, HM⟩ := hrel
              obtain ⟨t0, t1, t2⟩ := HM.out.1.three
              by_cases hlt : m < n
              · have hmk := marks_get done m (by rw [HLEN.out]; exact hlt)
                have c3 := HM.out.1.mark hmk
                cases ho : objAt done m with
                | none =>
                  rw [ho] at c3
                  simp only [Option.isSome_none] at c3
                  have HNX : Hid (∀ j o, j < m + 1 → objAt done j = some o → o.fs.all (fieldB (Fi : Int) (marks done)) = true) := by
                    intro j o hj hjo
                    by_cases hjm : j = m
                    · subst hjm; rw [ho] at hjo; cases hjo
                    · exact HM.out.2 j o (by omega) hjo
                  clear hmk ho
                  go_wp2
                  go_quiet (fail)
                  go_wp2
                  go_roundw
                  case rel => exact ⟨m + 1, by simp, by omega, HM.out.1.on (below_draws (Below.refl _ _) _), HNX.out⟩
                  case measure => simp [intOf]; omega
                | some o =>
                  rw [ho] at c3
                  simp only [Option.isSome_some] at c3
                  have hmay := (HOK.out o (objAt_mem done m o ho)).1
                  have hfit := (HOK.out o (objAt_mem done m o ho)).2
                  have hmh := (Ob.may_split hmay).2
                  have hsp : m + 1 + longH o.kind o.size ≤ n := by
                    obtain ⟨_, _, h2⟩ := objAt_words ho
                    rw [HLEN.out] at h2
                    have e : o.words = 1 + longH o.kind o.size := rfl
                    omega
                  have hfl : o.fs.length ≤ 100000 := by
                    have h1 := mayH_bounds hmh
                    by_cases hk2 : o.kind = 2
                    · rw [Ob.fs_nil hmay hk2]; simp
                    · have : o.size = o.fs.length := by simp [Ob.size, sizeH, hk2]
                      omega
                  have hml : (marks done).length = n := by rw [marks_length]; exact HLEN.out
                  have HCF := Lib.hid (fun (W : World) (hb : Below wr.heap.size wr W) => fields_raw (Fi : Int) bw m n (some ⟨bh, 0, none⟩) o.kind o.tag o.size hmh (by omega) hsp W ((HM.out.1.on hb).word (flat_at ho).1))
                  have hcm := fun (W : World) (hb : Below wr.heap.size wr W) => mayHold_any (Fi : Int) ⟨by omega, by omega⟩ (some ⟨bw, 0, none⟩) (some ⟨bh, 0, none⟩) n (marks done) _ o.fs hfit hfl W (Marks.row (HM.out.1.on hb).marks (by rw [hml]; omega)) (fields_reads ho HOK.out (w := W) (bw := bw) (fun i x hi => (HM.out.1.on hb).word hi) n (n - (m + 1)) HLEN.out.symm)
                  rw [hml] at hcm
                  have hnx : o.fs.all (fieldB (Fi : Int) (marks done)) = true → ∀ j o, j < m + 1 → objAt done j = some o → o.fs.all (fieldB (Fi : Int) (marks done)) = true := by
                    intro hb j q hj hjo
                    by_cases hjm : j = m
                    · subst hjm; rw [ho] at hjo; cases hjo; exact hb
                    · exact HM.out.2 j q (by omega) hjo
                  have hno : o.fs.all (fieldB (Fi : Int) (marks done)) = false → A.objs base half space (n : Int) = none := by
                    intro hb
                    rw [HPA.out, fieldsOk_no ho hb]
                    rfl
                  have HNX := Lib.hid hnx
                  have HNO := Lib.hid hno
                  cases hb : o.fs.all (fieldB (Fi : Int) (marks done)) with
                  | true =>
                    rw [hb] at hcm
                    have HCM := Lib.hid hcm
                    have HNX2 := Lib.hid (HNX.out hb)
                    clear hb hcm hnx hno HNX HNO hmk hmay hfit hmh hsp hfl hml ho
                    go_wp2
                    go_region_held3 (fun w' => w'.cell? ⟨bv, 0, none⟩ = some (.int .i64 (Fi : Int)) ∧ w'.cell? ⟨bv, 1, none⟩ = some (.slice (some ⟨bw, 0, none⟩) n n) ∧ w'.cell? ⟨bv, 2, none⟩ = some (.slice (some ⟨bh, 0, none⟩) n n)) (first | exact ⟨t0, t1, t2⟩ | exact ⟨y0, y1, y2⟩)
                      (first
                        | ((with_reducible refine (HCF.out _ (bl_drew (Below.refl _ _))).mono ?_)
                           rintro e w3 ⟨rfl, b3⟩
                           have b3' : Below wr.heap.size wr w3 := bl_call (bl_drew (Below.refl _ _)) b3
                           obtain ⟨y0, y1, y2⟩ := (HM.out.1.on b3').three
                           have HB3 := Lib.hid b3'
                           clear b3 b3')
                        | ((with_reducible refine (HCM.out _ HB3.out).mono ?_)
                           rintro e w4 ⟨rfl, b4⟩
                           have b4' : Below wr.heap.size wr w4 := bl_call HB3.out b4
                           obtain ⟨y0, y1, y2⟩ := (HM.out.1.on b4').three
                           have HB4 := Lib.hid b4'
                           clear b4 b4'))
                    all_goals
                      go_wp2
                      go_roundw
                      case rel => exact ⟨m + 1, by simp, by omega, HM.out.1.on HB4.out, HNX2.out⟩
                      case measure => simp [intOf]; omega
                  | false =>
                    rw [hb] at hcm
                    have HCM := Lib.hid hcm
                    have HNO2 := Lib.hid (HNO.out hb)
                    clear hb hcm hnx hno HNX HNO hmk hmay hfit hmh hsp hfl hml ho
                    go_wp2
                    go_region_held3 (fun w' => w'.cell? ⟨bv, 0, none⟩ = some (.int .i64 (Fi : Int)) ∧ w'.cell? ⟨bv, 1, none⟩ = some (.slice (some ⟨bw, 0, none⟩) n n) ∧ w'.cell? ⟨bv, 2, none⟩ = some (.slice (some ⟨bh, 0, none⟩) n n)) (first | exact ⟨t0, t1, t2⟩ | exact ⟨y0, y1, y2⟩)
                      (first
                        | ((with_reducible refine (HCF.out _ (bl_drew (Below.refl _ _))).mono ?_)
                           rintro e w3 ⟨rfl, b3⟩
                           have b3' : Below wr.heap.size wr w3 := bl_call (bl_drew (Below.refl _ _)) b3
                           obtain ⟨y0, y1, y2⟩ := (HM.out.1.on b3').three
                           have HB3 := Lib.hid b3'
                           clear b3 b3')
                        | ((with_reducible refine (HCM.out _ HB3.out).mono ?_)
                           rintro e w4 ⟨rfl, b4⟩
                           have b4' : Below wr.heap.size wr w4 := bl_call HB3.out b4
                           obtain ⟨y0, y1, y2⟩ := (HM.out.1.on b4').three
                           have HB4 := Lib.hid b4'
                           clear b4 b4'))
                    all_goals
                      have HL5 := Lib.hid (HM.out.1.on HB4.out)
                      have R42 := Lib.hid (R4.out.below HL5.out.below hz1)
                      have z0 := (R42.out.cell 0)
                      have z1 := (R42.out.cell 1)
                      have z2 := (R42.out.cell 2)
                      have f0 := R42.out.free 0
                      have f1 := R42.out.free 1
                      have f2 := R42.out.free 2
                      simp only [List.getElem?_cons_zero, List.getElem?_cons_succ] at z0 z1 z2
                      have HB2 : Hid (Below w.heap.size w w4) := bl_call HB1.out HL5.out.below
                      go_wp2
                      refine bodyPost_ret (v := .tuple #[zeroView, .bool false]) (by simp [results, Try.results29, go_sem, z0, z1, z2]) rfl ⟨?_, .inr ⟨HNO2.out, rfl⟩⟩
                      repeat (first | exact Below.refl _ _ | exact HB2.out | refine bl_alloc ?_ _ | refine bl_drew ?_ | refine bl_set ?_ (by simp) _)
              · obtain rfl : m = n := by omega
                have hfo : fieldsOk (Fi : Int) done = true := fieldsOk_of fun j o hj hjo => HM.out.2 j o (by rw [HLEN.out] at hj; exact hj) hjo
                have HOB : Hid (A.objs base half space (m : Int) = some done) := by
                  show _ = _
                  rw [HPA.out, hfo]
                  rfl
                have R42 := Lib.hid (R4.out.below HM.out.1.below hz1)
                have z0 := (R42.out.cell 0)
                have z1 := (R42.out.cell 1)
                have z2 := (R42.out.cell 2)
                have f0 := R42.out.free 0
                have f1 := R42.out.free 1
                have f2 := R42.out.free 2
                simp only [List.getElem?_cons_zero, List.getElem?_cons_succ] at z0 z1 z2
                have HB2 : Hid (Below w.heap.size w wr) := bl_call HB1.out HM.out.1.below
                have nb1 : bw ≠ w.heap.size + 1 := by have := HM.out.1.low.2.1; omega
                have nb2 : bh ≠ w.heap.size + 1 := by have := HM.out.1.low.2.2; omega
                have HROW1 := Lib.hid HM.out.1.words
                have HROW2 := Lib.hid HM.out.1.marks
                clear hfo hlt
                go_wp2
                refine bodyPost_ret (v := .tuple #[viewV (Fi : Int) (some ⟨bw, 0, none⟩) (some ⟨bh, 0, none⟩) m m, .bool true]) (by simp [results, Try.results29, go_sem, z0, z1, z2]) rfl ⟨?_, .inl ⟨done, bw, bh, HOB.out, by rw [HFI.out], ?_, ?_, HLEN.out⟩⟩
                · repeat (first | exact Below.refl _ _ | exact HB2.out | refine bl_alloc ?_ _ | refine bl_drew ?_ | refine bl_set ?_ (by simp) _)
                · exact ((HROW1.out.other ⟨w.heap.size + 1, 0, none⟩ _ nb1).other ⟨w.heap.size + 1, 1, none⟩ _ nb1).other ⟨w.heap.size + 1, 2, none⟩ _ nb1
                · exact ((HROW2.out.other ⟨w.heap.size + 1, 0, none⟩ _ nb2).other ⟨w.heap.size + 1, 1, none⟩ _ nb2).other ⟨w.heap.size + 1, 2, none⟩ _ nb2
end Go.Proofs.Ytnjpjhlodamanaa
