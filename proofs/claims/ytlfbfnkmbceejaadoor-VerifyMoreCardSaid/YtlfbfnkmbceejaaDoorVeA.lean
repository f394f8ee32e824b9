/-
  Package verify: the leaf functions; copies of wide elements; slices.Repeat of one state.
  Conditions: as each states.
-/
import Derived.Test.YtlfbfnkmbceejaaDoorVe
import Derived.Test.YtlfbfnkmbceejaaDoorVeT
import Derived.Test.YtlfbfnkmbceejaaDoorApp
import Derived.Test.YtlfbfnkmbceejaaDoorShelf
import Derived.Laws.CopyRow
import Derived.Laws.CopyOwn
import Derived.RegionTactic
import Derived.BigRegion
import Derived.StillTailTactics
namespace Go.Proofs.YtlfbfnkmbceejaaDoor
open Go.ChangeShapes Go.WideShapes Go.ChangeAt Go.RowKit
set_option linter.unusedVariables false
set_option linter.unusedSimpArgs false
set_option maxRecDepth 100000

def stC (s : PSt) : List Value := [.int .i64 s.1, .int .i64 s.2]
def stL (l : List PSt) : List Value := l.flatMap stC
abbrev stV (s : PSt) : Value := .agg #[.int .i64 s.1, .int .i64 s.2]
theorem stL_length (l : List PSt) : (stL l).length = l.length * 2 := by
  induction l with
  | nil => rfl
  | cons x l ih => simp [stL, stC] at ih ⊢; omega
theorem stL_get : ∀ (l : List PSt) (k : Nat), k < l.length → (stL l)[k * 2]? = some (.int .i64 (stAt l k).1) ∧ (stL l)[k * 2 + 1]? = some (.int .i64 (stAt l k).2)
  | [], k, h => by simp at h
  | x :: l, 0, h => by simp [stL, stC, stAt]
  | x :: l, k + 1, h => by
    have ih := stL_get l k (by simpa using h)
    rw [show (k + 1) * 2 = k * 2 + 1 + 1 by omega]
    simpa [stL, stC, stAt] using ih
theorem stL_app (a b : List PSt) : stL (a ++ b) = stL a ++ stL b := by simp [stL]
theorem stL_one {l : List PSt} : ∀ u ∈ stL l, u.oneCell' = true := by
  intro u hu
  obtain ⟨s, _, hs⟩ := List.mem_flatMap.1 hu
  rcases List.mem_cons.1 hs with rfl | hs
  · rfl
  · rcases List.mem_cons.1 hs with rfl | hs
    · rfl
    · cases hs
theorem stL_set : ∀ (l : List PSt) (i : Nat) (s : PSt), i < l.length → ((stL l).set (i * 2) (.int .i64 s.1)).set (i * 2 + 1) (.int .i64 s.2) = stL (l.set i s)
  | [], i, _, h => by simp at h
  | e :: l, 0, s, _ => by simp [stL, stC]
  | e :: l, i + 1, s, h => by
    have ih := stL_set l i s (by simpa using h)
    have e1 : (i + 1) * 2 = i * 2 + 1 + 1 := by omega
    rw [e1]
    simp only [stL, stC, List.flatMap_cons, List.set_cons_succ, List.cons_append, List.nil_append] at ih ⊢
    rw [ih]

theorem sOk_eq (s : PSt) : sOk s = decide (s.1 ≤ 100 ∧ 0 ≤ s.2 ∧ s.2 ≤ 10) := rfl
theorem within_any (a b : Int) (w : World) :
    Calls Tryd.prog 48 #[.agg #[.int .i64 a, .int .i64 b]] w fun e w' => e = .returned (.bool (sOk (a, b))) ∧ Below w.heap.size w w' := by
  have b0 : ∀ o, Hid (Below w.heap.size w (w.alloc o)) := fun o => Lib.hid (down_alloc (Below.refl _ _) _)
  by_cases c1 : a ≤ 100
  · by_cases c2 : 0 ≤ b
    · by_cases c3 : b ≤ 10
      · have E := Lib.hid (show sOk (a, b) = true by rw [sOk_eq]; exact decide_eq_true ⟨c1, c2, c3⟩)
        go_enter Tryd.func48, Tryd.ntmps48
        go_wp2_with fail
        go_ret
        exact ⟨ret_bool E.out.symm, (b0 _).out⟩
      · have E := Lib.hid (show sOk (a, b) = false by rw [sOk_eq]; exact decide_eq_false fun h => c3 h.2.2)
        go_enter Tryd.func48, Tryd.ntmps48
        go_wp2_with fail
        go_ret
        exact ⟨ret_bool E.out.symm, (b0 _).out⟩
    · have E := Lib.hid (show sOk (a, b) = false by rw [sOk_eq]; exact decide_eq_false fun h => c2 h.2.1)
      go_enter Tryd.func48, Tryd.ntmps48
      go_wp2_with fail
      go_ret
      exact ⟨ret_bool E.out.symm, (b0 _).out⟩
  · have E := Lib.hid (show sOk (a, b) = false by rw [sOk_eq]; exact decide_eq_false fun h => c1 h.1)
    go_enter Tryd.func48, Tryd.ntmps48
    go_wp2_with fail
    go_ret
    exact ⟨ret_bool E.out.symm, (b0 _).out⟩
theorem within_is {a b : Int} {r : Bool} (h : sOk (a, b) = r) (w : World) :
    Calls Tryd.prog 48 #[.agg #[.int .i64 a, .int .i64 b]] w fun e w' => e = .returned (.bool r) ∧ Below w.heap.size w w' := h ▸ within_any a b w

theorem endOk_9 (a b : Int) (s : PSt) : endOk (9, a, b) s = ((s.1 == 1) && (s.2 == 0)) := by
  unfold endOk; rw [if_pos rfl]; obtain ⟨x, y⟩ := s
  by_cases h : x = 1 <;> by_cases k : y = 0 <;> simp [h, k]
theorem endOk_8 (a b : Int) (s : PSt) : endOk (8, a, b) s = ((s.1 == 2) && (s.2 == 0)) := by
  unfold endOk; rw [if_neg (show ¬ (8 : Int) = 9 by decide), if_pos rfl]; obtain ⟨x, y⟩ := s
  by_cases h : x = 2 <;> by_cases k : y = 0 <;> simp [h, k]
theorem endOk_o (o a b : Int) (s : PSt) (h : ¬ o = 9) (k : ¬ o = 8) : endOk (o, a, b) s = true := by
  unfold endOk; rw [if_neg h, if_neg k]
theorem endsWell_any (o a b x y : Int) (w : World) :
    Calls Tryd.prog 50 #[.agg #[.int .i64 o, .int .i64 a, .int .i64 b], .agg #[.int .i64 x, .int .i64 y]] w fun e w' => e = .returned (.bool (endOk (o, a, b) (x, y))) ∧ Below w.heap.size w w' := by
  by_cases h9 : o = 9
  · subst h9
    have E := Lib.hid (endOk_9 a b (x, y))
    have r1 : ∀ w, (Op.equalIn 10000 47 (.agg #[.int .i64 x, .int .i64 y]) (.agg #[.int .i64 1, .int .i64 0])).run Tryd.prog w = .ok ((x == 1) && (y == 0)) w := fun w => run_st_eq w _ _ _ _
    go_enter Tryd.func50, Tryd.ntmps50
    go_wp2_with fail
    go_ret
    exact ⟨ret_bool E.out.symm, by repeat (first | exact Below.refl _ _ | refine down_alloc ?_ _)⟩
  · have t1 : (o == 9) = false := by rw [beq_eq_false_iff_ne]; exact h9
    by_cases h8 : o = 8
    · subst h8
      have E := Lib.hid (endOk_8 a b (x, y))
      have r1 : ∀ w, (Op.equalIn 10000 47 (.agg #[.int .i64 x, .int .i64 y]) (.agg #[.int .i64 2, .int .i64 0])).run Tryd.prog w = .ok ((x == 2) && (y == 0)) w := fun w => run_st_eq w _ _ _ _
      go_enter Tryd.func50, Tryd.ntmps50
      go_wp2_with fail
      go_ret
      exact ⟨ret_bool E.out.symm, by repeat (first | exact Below.refl _ _ | refine down_alloc ?_ _)⟩
    · have t2 : (o == 8) = false := by rw [beq_eq_false_iff_ne]; exact h8
      have E := Lib.hid (endOk_o o a b (x, y) h9 h8)
      clear h9 h8
      go_enter Tryd.func50, Tryd.ntmps50
      go_wp2_with fail
      go_ret
      exact ⟨ret_bool E.out.symm, by repeat (first | exact Below.refl _ _ | refine down_alloc ?_ _)⟩
theorem endsWell_is {o a b x y : Int} {r : Bool} (h : endOk (o, a, b) (x, y) = r) (w : World) :
    Calls Tryd.prog 50 #[.agg #[.int .i64 o, .int .i64 a, .int .i64 b], .agg #[.int .i64 x, .int .i64 y]] w fun e w' => e = .returned (.bool r) ∧ Below w.heap.size w w' := h ▸ endsWell_any o a b x y w

/-! ## copy of elements of more than one cell -/
def spl (cur : List Value) (off : Nat) (cs : List Value) : List Value := cur.take off ++ (cs ++ cur.drop (off + cs.length))
theorem run_copy_wide {P : Program} (w : World) (dT sT ty elem : TypeId) (g o dLen dCap : Nat) (a : Addr) (sLen sCap : Nat) (cur : List Value) (t : TypeId) (cs : List Value) (m size : Nat)
    (hu : P.underlying dT = some (.slice elem)) (hs : (P.info? elem).map (·.size) = some size)
    (hg : rowAt w g t cur) (hm : Nat.min sLen dLen = m) (hn : m * size = cs.length)
    (hsrc : ∀ j v, cs[j]? = some v → w.cell? (a.add j) = some v) (hfit : o + cs.length ≤ cur.length) (h1 : ∀ v ∈ cs, v.oneCell' = true) :
    (Builtin.copy_ #[dT, sT] ty #[.slice (some ⟨g, o, none⟩) dLen dCap, .slice (some a) sLen sCap]).run P w = .ok (.int .i64 m) (w.setRow g (spl cur o cs).toArray) := by
  have hl := run_loadCells_list (P := P) w a cs hsrc
  have hst := run_storeCells_at P g o t cs 0 cur.toArray w hg (by simpa using hfit) h1
  cases hq : P.info? elem with
  | none => simp [hq] at hs
  | some i =>
    have hi : i.size = size := by simpa [hq] using hs
    simp [Builtin.copy_, run_underlying hu, Builtin.lenOf, Builtin.firstCells, sizeOf, typeInfo, hq, hi, hm, hn, hl, hst, spl, goInt]
theorem step_copy_wide {P : Program} {ops : Array Oper} {o : Oper} {a : Act} {w : World} {K : Act → World → Prop} {Q : Exit → Act → World → Prop} {E : Prop} (hgd : o.guard = none) (d s : Operand) (dT sT : TypeId)
    (ho : o.op = .call { callee := .builtin .copy, args := #[d, s], argTypes := #[dT, sT] }) (elem : TypeId) (size : Nat) (hu : P.underlying dT = some (.slice elem)) (hsz : (P.info? elem).map (·.size) = some size)
    (g off dLen dCap : Nat) (sa : Addr) (sLen sCap : Nat) (hd : a.eval d = .slice (some ⟨g, off, none⟩) dLen dCap) (hs : a.eval s = .slice (some sa) sLen sCap)
    (cur : List Value) (t : TypeId) (hg : rowAt w g t cur) (cs : List Value) (m : Nat) (hm : Nat.min sLen dLen = m) (hn : m * size = cs.length)
    (hsrc : ∀ j v, cs[j]? = some v → w.cell? (sa.add j) = some v)
    (hfit : off + cs.length ≤ cur.length) (h1 : ∀ v ∈ cs, v.oneCell' = true)
    (h : ∀ w', Hid (w' = w.setRow g (spl cur off cs).toArray) → K (a.put o.dst (.int .i64 m)) w') :
    if Region.wanted o (yielded ops a.tmps) = true then Oper.wp P o a w K Q else E := by
  have hw : Region.wanted o (yielded ops a.tmps) = true := by simp [Region.wanted, hgd]
  rw [if_pos hw]
  have hrun := run_copy_wide (P := P) w dT sT o.type elem g off dLen dCap sa sLen sCap cur t cs m size hu hsz hg hm hn hsrc hfit h1
  unfold Oper.wp
  simp only [execOp, ho, resolve, invoke, builtin, Sem.run_bind, Sem.run_pure, Result.andThen_ok, List.map_toArray, List.map_cons, List.map_nil, hd, hs, hrun]
  exact h _ rfl
theorem rowAt.setRow {w : World} {g : Nat} {t : TypeId} {cur cs : List Value} (h : rowAt w g t cur) : rowAt (w.setRow g cs.toArray) g t cs := setRow_heap w g _ _ t _ h
theorem upon_setRow (w : World) (g : Nat) (cs : Array Value) : Upon (fun k => k = g) w (w.setRow g cs) :=
  ⟨rfl, rfl, rfl, by simp [World.setRow], fun k _ hs => setRow_other w g k cs fun e => hs e⟩
theorem spl_rep {s : PSt} {k m n : Nat} {zs : List Value} (hz : zs.length = (n - k) * 2) (hm : m ≤ n - k) (hk : k ≤ n) :
    ∃ zs' : List Value, spl (stL (List.replicate k s) ++ zs) (k * 2) (stL (List.replicate m s)) = stL (List.replicate (k + m) s) ++ zs' ∧ zs'.length = (n - (k + m)) * 2 := by
  refine ⟨zs.drop (m * 2), ?_, by simp; omega⟩
  have h1 : (stL (List.replicate k s)).length = k * 2 := by rw [stL_length]; simp
  have h2 : (stL (List.replicate m s)).length = m * 2 := by rw [stL_length]; simp
  unfold spl
  rw [h2, List.take_append_of_le_length (by omega), List.take_of_length_le (by omega), List.drop_append, h1, List.drop_of_length_le (by omega), List.nil_append, show k * 2 + m * 2 - k * 2 = m * 2 by omega]
  rw [show List.replicate (k + m) s = List.replicate k s ++ List.replicate m s from (List.replicate_append_replicate ..).symm, stL_app, List.append_assoc]
theorem mul_any (n : Nat) (hn : n ≤ 600) (w : World) :
    Calls Tryd.prog 47 #[.int .u64 1, .int .u64 n] w fun e w' => e = .returned (.tuple #[.int .u64 0, .int .u64 n]) ∧ w' = w := by
  refine (Any.bits_Mul Tryd.laysNm212 1 n (by decide) (by omega) w).mono ?_
  rintro e w' ⟨rfl, hw⟩
  refine ⟨?_, hw⟩
  rw [Nat.one_mul, Nat.div_eq_of_lt (by omega), Nat.mod_eq_of_lt (by omega)]
  rfl
theorem under_sts : Tryd.prog.underlying 30 = some (.slice 47) := by kernel_rfl
theorem info_st : (Tryd.prog.info? 47).map (fun i => (i.zero, i.size, i.bytes)) = some (some (.agg #[.int .i64 0, .int .i64 0]), 2, 16) := by kernel_rfl
theorem info_st2 : (Tryd.prog.info? 47).map (·.size) = some 2 := by kernel_rfl
theorem make_sts {n : Nat} (hn : n ≤ 600) : ∃ zs : List Value, zs.length = n * 2 ∧ ∀ w : World, (Instr.makeSlice 30 (.int .i64 (n : Int)) (.int .i64 (n : Int))).run Tryd.prog w = .ok (.slice (some ⟨w.heap.size, 0, none⟩) n n) (w.alloc (.cells ⟨zs⟩ 47)) := by
  obtain ⟨i, hi, hz0, hz1, hz2⟩ := info_parts info_st
  have hb : (i.bytes : Int) * (n : Int) ≤ 281474976710656 := by rw [hz2]; omega
  refine ⟨(madeCells (Value.agg #[.int .i64 0, .int .i64 0]).cells (n * 2)).toList, by rw [Array.length_toList, size_madeCells], fun w => ?_⟩
  have hr := run_make (P := Tryd.prog) w 30 47 i _ under_sts hi hz0 .i64 .i64 n n (by omega) (by omega) hb (by omega)
  simp only [Int.toNat_natCast] at hr
  rw [hr, hz1]
theorem st_src {w : World} {b o : Nat} {s : PSt} (h0 : w.cell? ⟨b, o, none⟩ = some (.int .i64 s.1)) (h1 : w.cell? ⟨b, o + 1, none⟩ = some (.int .i64 s.2)) : ∀ j v, (stC s)[j]? = some v → w.cell? ((⟨b, o, none⟩ : Addr).add j) = some v := by
  intro j v hj
  match j with
  | 0 => simp [stC] at hj; subst hj; exact h0
  | 1 => simp [stC] at hj; subst hj; exact h1
  | j + 2 => simp [stC] at hj
def RepPost (n : Nat) (s : PSt) (w : World) (e : Ending) (w' : World) : Prop :=
  e = .returned (.slice (some ⟨w.heap.size, 0, none⟩) n n) ∧ rowAt w' w.heap.size 47 (stL (List.replicate n s)) ∧ Below w.heap.size w w'
def RepIn (n k : Nat) (s : PSt) (g : Nat) (w w' : World) : Prop := (∃ zs : List Value, rowAt w' g 47 (stL (List.replicate k s) ++ zs) ∧ zs.length = (n - k) * 2) ∧ Below w.heap.size w w'
theorem rep_end {n : Nat} {s : PSt} {w w' : World} (h : RepIn n n s w.heap.size w w') : RepPost n s w (.returned (.slice (some ⟨w.heap.size, 0, none⟩) n n)) w' := by
  obtain ⟨⟨zs, h1, h2⟩, h3⟩ := h
  have : zs = [] := List.length_eq_zero_iff.1 (by omega)
  subst this
  rw [List.append_nil] at h1
  exact ⟨rfl, h1, h3⟩
theorem rep_step {n k m : Nat} {s : PSt} {w wr W : World} {zs : List Value} (h1 : rowAt wr w.heap.size 47 (stL (List.replicate k s) ++ zs)) (h2 : zs.length = (n - k) * 2) (hb : Below w.heap.size w wr) (hm : m ≤ n - k) (hk : k ≤ n)
    (hW : W = wr.setRow w.heap.size (spl (stL (List.replicate k s) ++ zs) (k * 2) (stL (List.replicate m s))).toArray) : RepIn n (k + m) s w.heap.size w W := by
  subst hW
  obtain ⟨zs', e, hl⟩ := spl_rep (s := s) h2 hm hk
  refine ⟨⟨zs', ?_, hl⟩, hb.trans ((upon_setRow _ _ _).belowB (Nat.le_of_lt h1.lt) (fun k e => by omega))⟩
  rw [← e]
  exact h1.setRow
set_option maxHeartbeats 4000000 in
theorem repeat_any {w : World} {b o cap : Nat} {s : PSt} {n : Nat} (hn : n ≤ 600) (hn0 : 0 < n) (h0 : w.cell? ⟨b, o, none⟩ = some (.int .i64 s.1)) (h1 : w.cell? ⟨b, o + 1, none⟩ = some (.int .i64 s.2)) :
    Calls Tryd.prog 41 #[.slice (some ⟨b, o, none⟩) 1 cap, .int .i64 n] w (RepPost n s w) := by
  have hb := World.block_lt_of_cell? w _ h0
  have n1 : ¬ ((9223372036854775807 : Int) < n) := by omega
  have n2 : (0 : Int) ≤ n := by omega
  obtain ⟨zs, hzl, hmk⟩ := make_sts hn
  obtain ⟨W1, hW1⟩ : ∃ W, w.alloc (.cells ⟨zs⟩ 47) = W := ⟨_, rfl⟩
  have r1 : rowAt W1 w.heap.size 47 zs := by rw [← hW1]; exact rowAt.made _ _ _
  have b1 : Below w.heap.size w W1 := by rw [← hW1]; exact down_alloc (Below.refl _ _) _
  have e0 : W1.cell? ⟨b, o, none⟩ = some (.int .i64 s.1) := (b1.cell (p := ⟨b, o, none⟩) hb).trans h0
  have e1 : W1.cell? ⟨b, o + 1, none⟩ = some (.int .i64 s.2) := (b1.cell (p := ⟨b, o + 1, none⟩) hb).trans h1
  have hmin : Nat.min 1 n = 1 := Nat.min_eq_left (by omega)
  have hcopy := run_copy_wide (P := Tryd.prog) W1 30 30 3 47 w.heap.size 0 n n ⟨b, o, none⟩ 1 cap zs 47 (stC s) 1 2 under_sts info_st2 r1 hmin rfl (st_src e0 e1) (by simp [stC]; omega) (fun u hu => stL_one (l := [s]) u (by simpa [stL] using hu))
  obtain ⟨W2, hW2⟩ : ∃ W, W1.setRow w.heap.size (spl zs 0 (stC s)).toArray = W := ⟨_, rfl⟩
  rw [hW2] at hcopy
  have RI : Hid (RepIn n 1 s w.heap.size w W2) := by
    have := rep_step (n := n) (k := 0) (m := 1) (s := s) (w := w) (wr := W1) (W := W2) (zs := zs) (by simpa [stL] using r1) (by omega) b1 (by omega) (by omega) (by rw [← hW2]; simp [stL])
    exact this
  have hmI : (n : Int) * 0 = 0 := by omega
  clear hW2 r1 b1 e0 e1 h0 h1 hzl hmI
  go_enter Tryd.func41, Tryd.ntmps41
  go_wp2_with fail
  refine (mul_any n hn w).mono ?_
  rintro e w' ⟨rfl, rfl⟩
  go_wp2_with fail
  clear hW1 hcopy hmk
  go_loopw [8] (fun i wr => ∃ k : Nat, 1 ≤ k ∧ k ≤ n ∧ i = .int .i64 k ∧ Hid (RepIn n k s w'.heap.size w' wr)) (fun i _ => n - (intOf i).toNat)
  case atStart => exact ⟨1, by omega, hn0, rfl, RI⟩
  case round =>
    obtain ⟨k, hk1, hk2, rfl, HR⟩ := hrel
    by_cases hlt : k < n
    · have hltI : (k : Int) < n := by omega
      have hs1 : ∀ w, (Instr.slice 30 (.slice (some ⟨w'.heap.size, 0, none⟩) n n) (some (.int .i64 (k : Int))) none none).run Tryd.prog w = .ok (.slice (some ⟨w'.heap.size, k * 2, none⟩) (n - k) (n - k)) w := fun w => by
        obtain ⟨i, hi, hz0, hz1, hz2⟩ := info_parts info_st
        rw [run_slice_from_w _ _ under_sts hi _ hk2 w, if_neg (by omega), hz1]
        simp [Addr.add]
        omega
      have hs2 : ∀ w, (Instr.slice 30 (.slice (some ⟨w'.heap.size, 0, none⟩) n n) none (some (.int .i64 (k : Int))) none).run Tryd.prog w = .ok (.slice (some ⟨w'.heap.size, 0, none⟩) k n) w := fun w => by
        obtain ⟨i, hi, hz0, hz1, hz2⟩ := info_parts info_st
        exact run_slice_to_w _ _ under_sts hi _ hk2 (Nat.le_refl _) w
      obtain ⟨m, hm⟩ : ∃ m, m = Nat.min k (n - k) := ⟨_, rfl⟩
      have hmk : m ≤ n - k := by rw [hm]; exact Nat.min_le_right _ _
      have hm1 : 1 ≤ m := by rw [hm]; exact Nat.le_min.2 ⟨hk1, by omega⟩
      have hm2 : m ≤ k := by rw [hm]; exact Nat.min_le_left _ _
      obtain ⟨⟨zs2, z1, z2⟩, z3⟩ := HR.out
      have hlen : (stL (List.replicate k s)).length = k * 2 := by rw [stL_length, List.length_replicate]
      have hlem : (stL (List.replicate m s)).length = m * 2 := by rw [stL_length, List.length_replicate]
      have hsrc : ∀ j v, (stL (List.replicate m s))[j]? = some v → wr.drew.cell? ((⟨w'.heap.size, 0, none⟩ : Addr).add j) = some v := fun j v hj => by
        have z1' : rowAt wr.drew w'.heap.size 47 (stL (List.replicate k s) ++ zs2) := z1
        have h : wr.drew.cell? ⟨w'.heap.size, 0 + j, none⟩ = some v := by
          rw [z1'.cell, Nat.zero_add]
          have hj2 := (List.getElem?_eq_some_iff.1 hj).1
          rw [show List.replicate k s = List.replicate m s ++ List.replicate (k - m) s by rw [List.replicate_append_replicate]; congr 1; omega, stL_app, List.append_assoc, List.getElem?_append_left hj2]
          exact hj
        rw [show ((⟨w'.heap.size, 0, none⟩ : Addr).add j) = ⟨w'.heap.size, 0 + j, none⟩ by unfold Addr.add; split <;> simp_all]
        exact h
      have HZ1 := Lib.hid z1
      have HZ2 := Lib.hid z2
      have HZ3 := Lib.hid z3
      have HS := Lib.hid hsrc
      have HM := Lib.hid hm
      have HFIT := Lib.hid (show k * 2 + (stL (List.replicate m s)).length ≤ (stL (List.replicate k s) ++ zs2).length by rw [List.length_append, hlen, hlem, z2]; omega)
      have HL := Lib.hid hlem
      obtain ⟨cur, hcur⟩ : ∃ cur, stL (List.replicate k s) ++ zs2 = cur := ⟨_, rfl⟩
      obtain ⟨cs, hcs⟩ : ∃ cs, stL (List.replicate m s) = cs := ⟨_, rfl⟩
      have HO := Lib.hid (show ∀ v ∈ cs, v.oneCell' = true by rw [← hcs]; exact stL_one)
      have FIN := Lib.hid (show ∀ W, W = wr.drew.setRow w'.heap.size (spl cur (k * 2) cs).toArray → RepIn n (k + m) s w'.heap.size w' W from fun W hW => rep_step (wr := wr.drew) HZ1.out HZ2.out (down_drew HZ3.out) hmk hk2 (by rw [hcur, hcs]; exact hW))
      rw [hcur] at HZ1 HFIT
      rw [hcs] at HS HFIT HL
      clear z1 z2 z3 hlen hlem hsrc hm hcur hcs HR
      have hc := run_copy_wide (P := Tryd.prog) wr.drew 30 30 3 47 w'.heap.size (k * 2) (n - k) (n - k) ⟨w'.heap.size, 0, none⟩ k n cur 47 cs m 2 under_sts info_st2 HZ1.out HM.out.symm HL.out.symm HS.out HFIT.out HO.out
      obtain ⟨W3, hW3⟩ : ∃ W, wr.drew.setRow w'.heap.size (spl cur (k * 2) cs).toArray = W := ⟨_, rfl⟩
      rw [hW3] at hc
      have R3 := Lib.hid (FIN.out W3 hW3.symm)
      clear hW3
      go_wp2_with fail
      go_region
      go_wp2_with fail
      go_roundw
      case rel => exact ⟨k + m, by omega, by omega, by go_num, R3⟩
      case measure => simp [intOf]; omega
    · obtain rfl : k = n := by omega
      go_wp2_with fail
      go_ret
      exact rep_end HR.out
end Go.Proofs.YtlfbfnkmbceejaaDoor
