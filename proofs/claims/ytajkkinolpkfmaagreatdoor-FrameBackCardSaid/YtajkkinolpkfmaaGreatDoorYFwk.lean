/-
  slices.Repeat of one word.
  Conditions: as each states.
-/
import Derived.Test.YtajkkinolpkfmaaGreatDoorYFb
import Derived.Test.YtajkkinolpkfmaaGreatDoorYGa
import Derived.Test.YtajkkinolpkfmaaGreatDoorYCoRf
import Derived.Test.YtajkkinolpkfmaaGreatDoorYFr
import Derived.Test.YtajkkinolpkfmaaGreatDoorKeep
namespace Go.Proofs.YtajkkinolpkfmaaGreatDoor
set_option linter.unusedVariables false
set_option linter.unusedSimpArgs false
open Go.ChangeShapes Go.WideShapes Go.ChangeAt Go.RowKit
set_option maxRecDepth 100000

def repR (n : Nat) (x : Int) : List Value := List.replicate n (.int .u64 x)
theorem repR_length (n : Nat) (x : Int) : (repR n x).length = n := by simp [repR]
theorem repR_app (a b : Nat) (x : Int) : repR (a + b) x = repR a x ++ repR b x := by simp [repR, List.replicate_append_replicate]
theorem repR_one {n : Nat} {x : Int} : ∀ u ∈ repR n x, u.oneCell' = true := by
  intro u hu
  obtain rfl := List.eq_of_mem_replicate hu
  rfl
theorem spl_repR {x : Int} {k m n : Nat} {zs : List Value} (hz : zs.length = n - k) (hm : m ≤ n - k) (hk : k ≤ n) :
    ∃ zs' : List Value, splF (repR k x ++ zs) k (repR m x) = repR (k + m) x ++ zs' ∧ zs'.length = n - (k + m) := by
  refine ⟨zs.drop m, ?_, by simp; omega⟩
  have h1 := repR_length k x
  have h2 := repR_length m x
  unfold splF
  rw [h2, List.take_append_of_le_length (by omega), List.take_of_length_le (by omega), List.drop_append, h1, List.drop_of_length_le (by omega), List.nil_append, show k + m - k = m by omega]
  rw [repR_app, List.append_assoc]
theorem mulR_any (n : Nat) (hn : n ≤ 600) (w : World) :
    Calls Tryz.prog 75 #[.int .u64 1, .int .u64 n] w fun e w' => e = .returned (.tuple #[.int .u64 0, .int .u64 n]) ∧ w' = w := by
  refine (Any.bits_Mul Tryz.laysNm212 1 n (by decide) (by omega) w).mono ?_
  rintro e w' ⟨rfl, hw⟩
  refine ⟨?_, hw⟩
  rw [Nat.one_mul, Nat.div_eq_of_lt (by omega), Nat.mod_eq_of_lt (by omega)]
  rfl
def RpPost (n : Nat) (x : Int) (w : World) (e : Ending) (w' : World) : Prop :=
  e = .returned (.slice (some ⟨w.heap.size, 0, none⟩) n n) ∧ rowAt w' w.heap.size 43 (repR n x) ∧ Below w.heap.size w w'
def RpIn (n k : Nat) (x : Int) (g : Nat) (w w' : World) : Prop := (∃ zs : List Value, rowAt w' g 43 (repR k x ++ zs) ∧ zs.length = n - k) ∧ Below w.heap.size w w'
theorem rp_end {n : Nat} {x : Int} {w w' : World} (h : RpIn n n x w.heap.size w w') : RpPost n x w (.returned (.slice (some ⟨w.heap.size, 0, none⟩) n n)) w' := by
  obtain ⟨⟨zs, h1, h2⟩, h3⟩ := h
  have : zs = [] := List.length_eq_zero_iff.1 (by omega)
  subst this
  rw [List.append_nil] at h1
  exact ⟨rfl, h1, h3⟩
theorem rp_step {n k m : Nat} {x : Int} {w wr W : World} {zs : List Value} (h1 : rowAt wr w.heap.size 43 (repR k x ++ zs)) (h2 : zs.length = n - k) (hb : Below w.heap.size w wr) (hm : m ≤ n - k) (hk : k ≤ n)
    (hW : W = wr.setRow w.heap.size (splF (repR k x ++ zs) k (repR m x)).toArray) : RpIn n (k + m) x w.heap.size w W := by
  subst hW
  obtain ⟨zs', e, hl⟩ := spl_repR (x := x) h2 hm hk
  refine ⟨⟨zs', ?_, hl⟩, hb.trans ((upon_setRowF _ _ _).belowB (Nat.le_of_lt h1.lt) (fun k e => by omega))⟩
  rw [← e]
  exact h1.setRowF
theorem make_rp (n : Nat) (hn : n ≤ 600) : ∃ zs : List Value, zs.length = n ∧ ∀ w : World, (Instr.makeSlice 40 (.int .i64 (n : Int)) (.int .i64 (n : Int))).run Tryz.prog w = .ok (.slice (some ⟨w.heap.size, 0, none⟩) n n) (w.alloc (.cells ⟨zs⟩ 43)) := by
  obtain ⟨i, hi, hz0, hz1, hz2⟩ := info_parts info_W
  have hb : (i.bytes : Int) * (n : Int) ≤ 281474976710656 := by rw [hz2]; omega
  refine ⟨(madeCells (Value.int .u64 0).cells (n * 1)).toList, by rw [Array.length_toList, size_madeCells]; simp [Value.cells], fun w => ?_⟩
  have hr := run_make (P := Tryz.prog) w 40 43 i _ under_W hi hz0 .i64 .i64 n n (by omega) (by omega) hb (by omega)
  simp only [Int.toNat_natCast] at hr
  rw [hr, hz1]

theorem w_srcR {w : World} {b o : Nat} {x : Int} (h0 : w.cell? ⟨b, o, none⟩ = some (.int .u64 x)) : ∀ j v, (repR 1 x)[j]? = some v → w.cell? ((⟨b, o, none⟩ : Addr).add j) = some v := by
  intro j v hj
  match j with
  | 0 => simp [repR] at hj; subst hj; exact h0
  | j + 1 => simp [repR] at hj
set_option maxHeartbeats 4000000 in
theorem repeatR_pos {w : World} {b o cap : Nat} {x : Int} {n : Nat} (hn : n ≤ 600) (hn0 : 0 < n) (h0 : w.cell? ⟨b, o, none⟩ = some (.int .u64 x)) :
    Calls Tryz.prog 44 #[.slice (some ⟨b, o, none⟩) 1 cap, .int .i64 n] w (RpPost n x w) := by
  have hb := World.block_lt_of_cell? w _ h0
  have n1 : ¬ ((9223372036854775807 : Int) < n) := by omega
  have n2 : (0 : Int) ≤ n := by omega
  obtain ⟨zs, hzl, hmk⟩ := make_rp n hn
  obtain ⟨W1, hW1⟩ : ∃ W, w.alloc (.cells ⟨zs⟩ 43) = W := ⟨_, rfl⟩
  have r1 : rowAt W1 w.heap.size 43 zs := by rw [← hW1]; exact rowAt.made _ _ _
  have b1 : Below w.heap.size w W1 := by rw [← hW1]; exact down_alloc (Below.refl _ _) _
  have e0 : W1.cell? ⟨b, o, none⟩ = some (.int .u64 x) := (b1.cell (p := ⟨b, o, none⟩) hb).trans h0
  have hmin : Nat.min 1 n = 1 := Nat.min_eq_left (by omega)
  have hcopy := run_copy_wideF (P := Tryz.prog) W1 40 40 3 43 w.heap.size 0 n n ⟨b, o, none⟩ 1 cap zs 43 (repR 1 x) 1 1 under_W size_W r1 hmin rfl (w_srcR e0) (by simp [repR]; omega) repR_one
  obtain ⟨W2, hW2⟩ : ∃ W, W1.setRow w.heap.size (splF zs 0 (repR 1 x)).toArray = W := ⟨_, rfl⟩
  rw [hW2] at hcopy
  have RI : Hid (RpIn n 1 x w.heap.size w W2) := by
    have := rp_step (n := n) (k := 0) (m := 1) (x := x) (w := w) (wr := W1) (W := W2) (zs := zs) (by simpa [repR] using r1) (by omega) b1 (by omega) (by omega) (by rw [← hW2]; simp [repR])
    exact this
  have hmI : (n : Int) * 0 = 0 := by omega
  clear hW2 r1 b1 e0 h0 hzl hmI
  go_enter Tryz.func44, Tryz.ntmps44
  go_wp2_with fail
  refine (mulR_any n hn w).mono ?_
  rintro e w' ⟨rfl, rfl⟩
  go_wp2_with fail
  clear hW1 hcopy hmk
  go_loopw [8] (fun i wr => ∃ k : Nat, 1 ≤ k ∧ k ≤ n ∧ i = .int .i64 k ∧ Hid (RpIn n k x w'.heap.size w' wr)) (fun i _ => n - (intOf i).toNat)
  case atStart => exact ⟨1, by omega, hn0, rfl, RI⟩
  case round =>
    obtain ⟨k, hk1, hk2, rfl, HR⟩ := hrel
    by_cases hlt : k < n
    · have hltI : (k : Int) < n := by omega
      have hs1 : ∀ w, (Instr.slice 40 (.slice (some ⟨w'.heap.size, 0, none⟩) n n) (some (.int .i64 (k : Int))) none none).run Tryz.prog w = .ok (.slice (some ⟨w'.heap.size, k, none⟩) (n - k) (n - k)) w := fun w => by
        obtain ⟨i, hi, hz0, hz1, hz2⟩ := info_parts info_W
        rw [run_slice_from_w _ _ under_W hi _ hk2 w, if_neg (by omega), hz1]
        simp [Addr.add]
        omega
      have hs2 : ∀ w, (Instr.slice 40 (.slice (some ⟨w'.heap.size, 0, none⟩) n n) none (some (.int .i64 (k : Int))) none).run Tryz.prog w = .ok (.slice (some ⟨w'.heap.size, 0, none⟩) k n) w := fun w => by
        obtain ⟨i, hi, hz0, hz1, hz2⟩ := info_parts info_W
        exact run_slice_to_w _ _ under_W hi _ hk2 (Nat.le_refl _) w
      obtain ⟨m, hm⟩ : ∃ m, m = Nat.min k (n - k) := ⟨_, rfl⟩
      have hmk : m ≤ n - k := by rw [hm]; exact Nat.min_le_right _ _
      have hm1 : 1 ≤ m := by rw [hm]; exact Nat.le_min.2 ⟨hk1, by omega⟩
      have hm2 : m ≤ k := by rw [hm]; exact Nat.min_le_left _ _
      obtain ⟨⟨zs2, z1, z2⟩, z3⟩ := HR.out
      have hlen := repR_length k x
      have hlem := repR_length m x
      have hsrc : ∀ j v, (repR m x)[j]? = some v → wr.drew.cell? ((⟨w'.heap.size, 0, none⟩ : Addr).add j) = some v := fun j v hj => by
        have z1' : rowAt wr.drew w'.heap.size 43 (repR k x ++ zs2) := z1
        have h : wr.drew.cell? ⟨w'.heap.size, 0 + j, none⟩ = some v := by
          rw [z1'.cell, Nat.zero_add]
          have hj2 := (List.getElem?_eq_some_iff.1 hj).1
          rw [show k = m + (k - m) by omega, repR_app, List.append_assoc, List.getElem?_append_left hj2]
          exact hj
        rw [show ((⟨w'.heap.size, 0, none⟩ : Addr).add j) = ⟨w'.heap.size, 0 + j, none⟩ by unfold Addr.add; split <;> simp_all]
        exact h
      have HZ1 := Lib.hid z1
      have HZ2 := Lib.hid z2
      have HZ3 := Lib.hid z3
      have HS := Lib.hid hsrc
      have HM := Lib.hid hm
      have HFIT := Lib.hid (show k + (repR m x).length ≤ (repR k x ++ zs2).length by rw [List.length_append, hlen, hlem, z2]; omega)
      have HL := Lib.hid hlem
      obtain ⟨cur, hcur⟩ : ∃ cur, repR k x ++ zs2 = cur := ⟨_, rfl⟩
      obtain ⟨cs, hcs⟩ : ∃ cs, repR m x = cs := ⟨_, rfl⟩
      have HO := Lib.hid (show ∀ v ∈ cs, v.oneCell' = true by rw [← hcs]; exact repR_one)
      have FIN := Lib.hid (show ∀ W, W = wr.drew.setRow w'.heap.size (splF cur k cs).toArray → RpIn n (k + m) x w'.heap.size w' W from fun W hW => rp_step (wr := wr.drew) HZ1.out HZ2.out (down_drew HZ3.out) hmk hk2 (by rw [hcur, hcs]; exact hW))
      rw [hcur] at HZ1 HFIT
      rw [hcs] at HS HFIT HL
      clear z1 z2 z3 hlen hlem hsrc hm hcur hcs HR
      have hc := run_copy_wideF (P := Tryz.prog) wr.drew 40 40 3 43 w'.heap.size k (n - k) (n - k) ⟨w'.heap.size, 0, none⟩ k n cur 43 cs m 1 under_W size_W HZ1.out HM.out.symm (by rw [HL.out, Nat.mul_one]) HS.out HFIT.out HO.out
      obtain ⟨W3, hW3⟩ : ∃ W, wr.drew.setRow w'.heap.size (splF cur k cs).toArray = W := ⟨_, rfl⟩
      rw [hW3] at hc
      have R3 := Lib.hid (FIN.out W3 hW3.symm)
      clear hW3
      go_wp2_with fail
      go_region
      go_wp2_with fail
      go_roundw
      case rel => exact ⟨k + m, by omega, by omega, by go_num, R3⟩
      case measure => simp [intOf]; omega
    · obtain rfl : k = n := by omega
      go_wp2_with fail
      go_ret
      exact rp_end HR.out

theorem repeatR_zero {w : World} {b o cap : Nat} {x : Int} (h0 : w.cell? ⟨b, o, none⟩ = some (.int .u64 x)) :
    Calls Tryz.prog 44 #[.slice (some ⟨b, o, none⟩) 1 cap, .int .i64 0] w (RpPost 0 x w) := by
  obtain ⟨zs, hzl, hmk⟩ := make_rp 0 (by omega)
  have : zs = [] := List.length_eq_zero_iff.1 hzl
  subst this
  obtain ⟨W1, hW1⟩ : ∃ W, w.alloc (.cells #[] 43) = W := ⟨_, rfl⟩
  have hmk0 : ∀ w : World, (Instr.makeSlice 40 (.int .i64 0) (.int .i64 0)).run Tryz.prog w = .ok (.slice (some ⟨w.heap.size, 0, none⟩) 0 0) (w.alloc (.cells #[] 43)) := hmk
  have r1 : rowAt W1 w.heap.size 43 [] := by rw [← hW1]; exact rowAt.made _ _ _
  have b1 : Below w.heap.size w W1 := by rw [← hW1]; exact down_alloc (Below.refl _ _) _
  have hcopy := run_copy_wideF (P := Tryz.prog) W1 40 40 3 43 w.heap.size 0 0 0 ⟨b, o, none⟩ 1 cap [] 43 [] 0 1 under_W size_W r1 rfl rfl (by simp) (by simp) (by simp)
  obtain ⟨W2, hW2⟩ : ∃ W, W1.setRow w.heap.size (splF [] 0 []).toArray = W := ⟨_, rfl⟩
  rw [hW2] at hcopy
  have R2 := Lib.hid (show rowAt W2 w.heap.size 43 (repR 0 x) by rw [← hW2]; exact r1.setRowF)
  have B2 := Lib.hid (show Below w.heap.size w W2 by rw [← hW2]; exact b1.trans ((upon_setRowF _ _ _).belowB (Nat.le_of_lt r1.lt) (fun k e => by omega)))
  have hm0 := mulR_any 0 (by omega) w
  have HM := Lib.hid hm0
  clear hW2 r1 b1 hmk hzl hm0
  go_enter Tryz.func44, Tryz.ntmps44
  go_wp2_with fail
  refine (HM.out).mono ?_
  rintro e w' ⟨rfl, rfl⟩
  go_wp2_with fail
  go_rounds 1
  go_ret
  exact ⟨rfl, R2.out, B2.out⟩
theorem repeatR_any {w : World} {b o cap : Nat} {x : Int} {n : Nat} (hn : n ≤ 600) (h0 : w.cell? ⟨b, o, none⟩ = some (.int .u64 x)) :
    Calls Tryz.prog 44 #[.slice (some ⟨b, o, none⟩) 1 cap, .int .i64 n] w (RpPost n x w) := by
  by_cases hz : n = 0
  · subst hz; exact repeatR_zero h0
  · exact repeatR_pos hn (by omega) h0
end Go.Proofs.YtajkkinolpkfmaaGreatDoor

/-
  Package frame: Start, the machine that begins with a program's first function.
  Conditions: as each states.
-/
namespace Go.Proofs.YtajkkinolpkfmaaGreatDoor
set_option linter.unusedVariables false
set_option linter.unusedSimpArgs false
open Go.ChangeShapes Go.WideShapes Go.ChangeAt Go.RowKit
set_option maxRecDepth 100000

def startNo (y0 y1 y2 y3 : Int) : PMa := ⟨y0, y1, y2, y3, [], [], [], 7, 1, 0⟩
def startYes (y0 y1 y2 y3 : Int) (L : Nat) : PMa := ⟨y0, y1, y2, y3, List.replicate L 1, [(0, 0, 0, 1)], [], 0, 1, 0⟩
def startP (y0 y1 y2 y3 : Int) (P : PPr) : PMa := if prG P = true then startYes y0 y1 y2 y3 (P.1.headD (0, 0, [])).1.toNat else startNo y0 y1 y2 y3
theorem int_0 (w : World) : Calls Tryz.prog 42 #[.int .i64 0] w fun e w' => e = .returned (.int .u64 1) ∧ w = w' := int_any 0 w
theorem cgoodF_is {S : Nat → Prop} {P : PPr} {b : Bool} (hb : prG P = b) (v1 v2 v3 : Value) (w : World) (T : OpTab w) (h : prAt S w v1 v2 v3 P) (hF : prF P) :
    Calls Tryz.prog 43 #[.agg #[v1, v2, v3]] w fun e w' => e = .returned (.bool b) ∧ Below w.heap.size w w' := hb ▸ codeGood_any v1 v2 v3 P w T h hF
/-- Start's own blocks. -/
structure StIn (w W : World) (ps cs : List Value) (ys : List Value) : Prop where
  ry : rowAt W w.heap.size 39 ys
  rp : rowAt W (w.heap.size + 1) 37 ps
  r2 : rowAt W (w.heap.size + 2) 45 [.int .i64 0, .int .i64 0, .int .i64 0, .int .i64 0, .slice none 0 0, .slice none 0 0, .slice none 0 0, .int .i64 0, .int .u64 0, .int .i64 0]
  r3 : rowAt W (w.heap.size + 3) 45 cs
  hb : Below w.heap.size w W
theorem StIn.more {w W W' : World} {ps cs ys : List Value} (h : StIn w W ps cs ys) (hb : Below W.heap.size W W') : StIn w W' ps cs ys :=
  ⟨h.ry.below hb h.ry.lt, h.rp.below hb h.rp.lt, h.r2.below hb h.r2.lt, h.r3.below hb h.r3.lt, down_call h.hb hb⟩
theorem StIn.set {w W : World} {ps cs ys : List Value} (h : StIn w W ps cs ys) (i : Nat) (v : Value) : StIn w (W.setCell ⟨w.heap.size + 3, i, none⟩ v) ps (cs.set i v) ys :=
  ⟨h.ry.other _ _ (by simp), h.rp.other _ _ (by simp), h.r2.other _ _ (by simp), h.r3.set i v, down_set h.hb (by simp) _⟩

theorem StIn.drew {w W : World} {ps cs ys : List Value} (h : StIn w W ps cs ys) : StIn w W.drew ps cs ys := ⟨h.ry, h.rp, h.r2, h.r3, down_drew h.hb⟩
set_option maxHeartbeats 4000000 in
theorem start_any {S : Nat → Prop} {w : World} {y0 y1 y2 y3 : Int} {v1 v2 v3 : Value} {P : PPr} (TT : OpTab w) (h : prAt S w v1 v2 v3 P) (hF : prF P) :
    Calls Tryz.prog 17 #[.agg #[.int .i64 y0, .int .i64 y1, .int .i64 y2, .int .i64 y3], .agg #[v1, v2, v3]] w (ThPost w (startP y0 y1 y2 y3 P)) := by
  obtain ⟨W, hW⟩ : ∃ W, ((w.alloc (.cells #[.int .i64 y0, .int .i64 y1, .int .i64 y2, .int .i64 y3] 39)).alloc (.cells #[v1, v2, v3] 37)).alloc (.cells #[.int .i64 0, .int .i64 0, .int .i64 0, .int .i64 0, .slice none 0 0, .slice none 0 0, .slice none 0 0, .int .i64 0, .int .u64 0, .int .i64 0] 45) = W := ⟨_, rfl⟩
  have BW := Lib.hid (show Below w.heap.size w W by rw [← hW]; exact down_alloc (down_alloc (down_alloc (Below.refl _ _) _) _) _)
  have RY := Lib.hid (show rowAt W w.heap.size 39 [.int .i64 y0, .int .i64 y1, .int .i64 y2, .int .i64 y3] by rw [← hW]; exact ((rowAt.made w 39 _).alloc _).alloc _)
  have RP := Lib.hid (show rowAt W (w.heap.size + 1) 37 [v1, v2, v3] by rw [← hW]; exact (rowAt.made_at (w := w.alloc (.cells #[.int .i64 y0, .int .i64 y1, .int .i64 y2, .int .i64 y3] 39)) (b := w.heap.size + 1) 37 [v1, v2, v3] (by simp)).alloc _)
  have R2 := Lib.hid (show rowAt W (w.heap.size + 2) 45 [.int .i64 0, .int .i64 0, .int .i64 0, .int .i64 0, .slice none 0 0, .slice none 0 0, .slice none 0 0, .int .i64 0, .int .u64 0, .int .i64 0] by rw [← hW]; exact rowAt.made_at (w := (w.alloc (.cells #[.int .i64 y0, .int .i64 y1, .int .i64 y2, .int .i64 y3] 39)).alloc (.cells #[v1, v2, v3] 37)) (b := w.heap.size + 2) 45 [.int .i64 0, .int .i64 0, .int .i64 0, .int .i64 0, .slice none 0 0, .slice none 0 0, .slice none 0 0, .int .i64 0, .int .u64 0, .int .i64 0] (by simp))
  have HS : W.heap.size = w.heap.size + 3 := by rw [← hW]; simp
  have TT' := Lib.hid TT
  have HP := Lib.hid h
  have HF := Lib.hid hF
  obtain ⟨a1, c1, rfl⟩ := h.1.slice
  obtain ⟨a2, c2, rfl⟩ := h.2.1.slice
  obtain ⟨a3, c3, rfl⟩ := h.2.2.slice
  clear h hF TT
  go_enter Tryz.func17, Tryz.ntmps17
  go_upto_region 1 with fail
  have y0' : W.cell? ⟨w.heap.size, 0, none⟩ = some (.int .i64 y0) := RY.out.cell 0
  have y1' : W.cell? ⟨w.heap.size, 1, none⟩ = some (.int .i64 y1) := RY.out.cell 1
  have y2' : W.cell? ⟨w.heap.size, 2, none⟩ = some (.int .i64 y2) := RY.out.cell 2
  have y3' : W.cell? ⟨w.heap.size, 3, none⟩ = some (.int .i64 y3) := RY.out.cell 3
  go_cut [5] (fun v wx => v = .pointer (some ⟨w.heap.size + 3, 0, none⟩) ∧ StIn w wx [.slice a1 P.1.length c1, .slice a2 P.2.1.length c2, .slice a3 P.2.2.length c3] [.int .i64 y0, .int .i64 y1, .int .i64 y2, .int .i64 y3, .slice none 0 0, .slice none 0 0, .slice none 0 0, .int .i64 7, .int .u64 1, .int .i64 0] [.int .i64 y0, .int .i64 y1, .int .i64 y2, .int .i64 y3])
  case first =>
    have FIN : StIn w (W.alloc (.cells #[.int .i64 y0, .int .i64 y1, .int .i64 y2, .int .i64 y3, .slice none 0 0, .slice none 0 0, .slice none 0 0, .int .i64 7, .int .u64 1, .int .i64 0] 45)).drew [.slice a1 P.1.length c1, .slice a2 P.2.1.length c2, .slice a3 P.2.2.length c3] [.int .i64 y0, .int .i64 y1, .int .i64 y2, .int .i64 y3, .slice none 0 0, .slice none 0 0, .slice none 0 0, .int .i64 7, .int .u64 1, .int .i64 0] [.int .i64 y0, .int .i64 y1, .int .i64 y2, .int .i64 y3] :=
      ⟨RY.out.alloc _, RP.out.alloc _, R2.out.alloc _, rowAt.made_at _ _ HS.symm, down_drew (down_alloc BW.out _)⟩
    have FN := Lib.hid FIN
    clear FIN
    go_region_with (go_at_call 42; refine (int_0 _).mono ?_; rintro e w4 ⟨rfl, rfl⟩)
    all_goals
      go_wp2_with fail
      go_meet
      exact ⟨rfl, FN.out⟩
  case rest =>
    obtain ⟨rfl, hI⟩ := hcut
    have I := Lib.hid hI
    have z0 : wc.cell? ⟨w.heap.size + 1, 0, none⟩ = some (.slice a1 P.1.length c1) := I.out.rp.cell 0
    have z1 : wc.cell? ⟨w.heap.size + 1, 1, none⟩ = some (.slice a2 P.2.1.length c2) := I.out.rp.cell 1
    have z2 : wc.cell? ⟨w.heap.size + 1, 2, none⟩ = some (.slice a3 P.2.2.length c3) := I.out.rp.cell 2
    clear hI hW y0' y1' y2' y3' HS
    cases hg : prG P
    · have HG := Lib.hid hg
      clear hg
      go_wp2_with fail
      refine (cgoodF_is HG.out _ _ _ _ (TT'.out.below I.out.hb) (HP.out.below I.out.hb) HF.out).mono ?_
      rintro e w2 ⟨rfl, hb⟩
      have J := Lib.hid (I.out.more hb)
      obtain ⟨e0, e1, e2, e3, e4, e5, e6, e7, e8, e9⟩ := cells10 J.out.r3
      obtain ⟨v0, v1, v2, v3, v4, v5, v6, v7, v8, v9⟩ := cells10 J.out.r2
      obtain ⟨m0, m1, m2, m3, m4, m5, m6, m7, m8, m9⟩ := frees10 J.out.r2
      have vl := J.out.r2.lt
      have E := Lib.hid (show startP y0 y1 y2 y3 P = startNo y0 y1 y2 y3 by unfold startP; rw [if_neg (by rw [HG.out]; decide)])
      clear hb
      go_wp2_with fail
      refine bodyPost_ret (v := maV y0 y1 y2 y3 (.slice none 0 0) (.slice none 0 0) (.slice none 0 0) 7 1 0) (by simp [results, Tryz.results17, go_sem, v0, v1, v2, v3, v4, v5, v6, v7, v8, v9]) rfl ?_
      rw [E.out]
      refine ⟨_, _, _, rfl, ⟨rd_nil, rd_nil, rd_nil⟩, ?_⟩
      iterate 10 refine down_set ?_ (by dsimp only; omega) _
      exact J.out.hb
    · have HG := Lib.hid hg
      obtain ⟨f0, fs, hP⟩ : ∃ f0 fs, P.1 = f0 :: fs := by
        have h1 : fnsG P.1 = true := by unfold prG at hg; simp only [Bool.and_eq_true] at hg; exact hg.2.1
        cases hq : P.1 with
        | nil => rw [hq] at h1; exact absurd h1 (by decide)
        | cons a b => exact ⟨a, b, rfl⟩
      have hL : 0 ≤ f0.1 ∧ f0.1 < 61 := by
        have h1 : fnsG P.1 = true := by unfold prG at hg; simp only [Bool.and_eq_true] at hg; exact hg.2.1
        rw [hP] at h1
        simp only [fnsG, allI, fnK, fnG, belowB, Bool.and_eq_true, decide_eq_true_eq] at h1
        omega
      obtain ⟨L, hL2⟩ : ∃ L : Nat, f0.1 = L := ⟨f0.1.toNat, by omega⟩
      have hL3 : L < 61 := by omega
      have E := Lib.hid (show startP y0 y1 y2 y3 P = startYes y0 y1 y2 y3 L by unfold startP; rw [if_pos HG.out, hP]; simp [hL2])
      have hlen : P.1.length = fs.length + 1 := by rw [hP]; rfl
      have hPt := HP.out.1
      obtain ⟨fb, fo, rfl, hfl, hlc⟩ : ∃ fb fo, a1 = some ⟨fb, fo, none⟩ ∧ fb < w.heap.size ∧ w.cell? ⟨fb, fo, none⟩ = some (.int .i64 (L : Int)) := by
        obtain ⟨a, c, e, h⟩ := hPt
        cases e
        rcases h with h | ⟨b, o, rfl, -, hb, hel⟩
        · omega
        · have h0 := hel 0 f0 (by rw [hP]; rfl)
          refine ⟨b, o, rfl, hb, ?_⟩
          have := h0.1
          rw [hL2] at this
          simpa using this
      have HLC := Lib.hid hlc
      have LEN := Lib.hid hlen
      clear hg hPt hlc hL hL2 hP hlen
      go_wp2_with fail
      refine (cgoodF_is HG.out _ _ _ _ (TT'.out.below I.out.hb) (HP.out.below I.out.hb) HF.out).mono ?_
      rintro e w2 ⟨rfl, hb⟩
      have J := Lib.hid (I.out.more hb)
      have lc2 : w2.cell? ⟨fb, fo, none⟩ = some (.int .i64 (L : Int)) := (J.out.hb.cell (p := ⟨fb, fo, none⟩) hfl).trans HLC.out
      have HFL := Lib.hid (show fb < w2.heap.size from Nat.lt_of_lt_of_le hfl J.out.hb.size)
      obtain ⟨W4, hW4⟩ : ∃ W4, w2.setCell ⟨w.heap.size + 3, 7, none⟩ (.int .i64 0) = W4 := ⟨_, rfl⟩
      have J4 := Lib.hid (show StIn w W4 [.slice (some ⟨fb, fo, none⟩) P.1.length c1, .slice a2 P.2.1.length c2, .slice a3 P.2.2.length c3] [.int .i64 y0, .int .i64 y1, .int .i64 y2, .int .i64 y3, .slice none 0 0, .slice none 0 0, .slice none 0 0, .int .i64 0, .int .u64 1, .int .i64 0] [.int .i64 y0, .int .i64 y1, .int .i64 y2, .int .i64 y3] by rw [← hW4]; exact J.out.set 7 _)
      have J4A := Lib.hid (J4.out.more (down_alloc (Below.refl _ _) (.cells #[.int .u64 1] 43)))
      obtain ⟨e0, e1, e2, e3, e4, e5, e6, e7, e8, e9⟩ := cells10 J.out.r3
      obtain ⟨q0, q1, q2, q3, q4, q5, q6, q7, q8, q9⟩ := frees10 J.out.r3
      have ql := J.out.r3.lt
      have hf4 : Hid (fb < W4.heap.size ∧ W4.cell? ⟨fb, fo, none⟩ = some (.int .i64 (L : Int))) := by
        rw [← hW4]
        refine Lib.hid ⟨by have := HFL.out; simpa [World.setCell] using this, ?_⟩
        exact (cell_upon (Upon.setCell (S := fun k => k = w.heap.size + 3) (w := w2) ⟨w.heap.size + 3, 7, none⟩ (.int .i64 0) rfl) HFL.out (by omega)).trans lc2
      have lc4 := hf4.out.2
      have lc4a : (W4.alloc (.cells #[.int .u64 1] 43)).cell? ⟨fb, fo, none⟩ = some (.int .i64 (L : Int)) := ((down_alloc (Below.refl W4.heap.size W4) (.cells #[.int .u64 1] 43)).cell (p := ⟨fb, fo, none⟩) hf4.out.1).trans lc4
      have pc4 : W4.cell? ⟨w.heap.size + 1, 0, none⟩ = some (.slice (some ⟨fb, fo, none⟩) P.1.length c1) := J4.out.rp.cell 0
      have pc4a : (W4.alloc (.cells #[.int .u64 1] 43)).cell? ⟨w.heap.size + 1, 0, none⟩ = some (.slice (some ⟨fb, fo, none⟩) P.1.length c1) := J4A.out.rp.cell 0
      have SZ := Lib.hid (show (W4.alloc (.cells #[.int .u64 1] 43)).drew.heap.size = W4.heap.size + 1 by simp [World.drew, World.drewN])
      have hR0 : Hid ((W4.alloc (.cells #[.int .u64 1] 43)).drew.cell? ⟨W4.heap.size, 0, none⟩ = some (.int .u64 1)) := Lib.hid (((rowAt.made W4 43 [.int .u64 1])).cell 0)
      have n0 : 0 < P.1.length := by have := LEN.out; omega
      have n1 : (0 : Int) < P.1.length := by omega
      have n2 : (0 : Int) ≤ (L : Int) := by omega
      have HL := Lib.hid hL3
      clear hL3
      go_wp2_with fail
      clear hW4
      go_upto_region 5 with fail
      go_cut [21] (fun _ wx => ∃ g1, StIn w wx [.slice (some ⟨fb, fo, none⟩) P.1.length c1, .slice a2 P.2.1.length c2, .slice a3 P.2.2.length c3] [.int .i64 y0, .int .i64 y1, .int .i64 y2, .int .i64 y3, .slice (some ⟨g1, 0, none⟩) L L, .slice none 0 0, .slice none 0 0, .int .i64 0, .int .u64 1, .int .i64 0] [.int .i64 y0, .int .i64 y1, .int .i64 y2, .int .i64 y3] ∧ rowAt wx g1 43 (repR L 1) ∧ w.heap.size + 3 < g1)
      case first =>
        go_region_with (first
          | (go_at_call 42; refine (int_0 _).mono ?_; rintro e w4 ⟨rfl, rfl⟩)
          | (go_at_call 44
             refine (repeatR_any (n := L) (x := 1) (by have := HL.out; omega) hR0.out).mono ?_
             rintro e w5 ⟨rfl, rr, hb5⟩
             have J5 := Lib.hid (J4A.out.drew.more hb5)
             have RR := Lib.hid (show rowAt w5 (W4.heap.size + 1) 43 (repR L 1) by rw [← SZ.out]; exact rr)
             have LT5 := Lib.hid (show w.heap.size + 3 < W4.heap.size + 1 by rw [← SZ.out]; exact J4A.out.drew.r3.lt)
             have x4 : w5.cell? ⟨w.heap.size + 3, 4, none⟩ = some (.slice none 0 0) := (J5.out.r3.cell 4).trans rfl
             have x4f := J5.out.r3.free 4
             have x4l := J5.out.r3.lt
             clear rr hb5))
        all_goals
          go_wp2_with fail
          go_meet
          exact ⟨_, J5.out.set 4 _, RR.out.other _ _ (Nat.ne_of_gt LT5.out), LT5.out⟩
      case rest =>
        obtain ⟨g1, k1, k2, k3⟩ := hcut
        have Q1 := Lib.hid k1
        have Q2 := Lib.hid k2
        have Q3 := Lib.hid k3
        clear k1 k2 k3
        obtain ⟨W6, hW6⟩ : ∃ W6, wc.alloc (.cells #[.int .i64 0, .int .i64 0, .int .i64 0, .int .u64 1] 65) = W6 := ⟨_, rfl⟩
        have F6 := Lib.hid (show rowAt W6 wc.heap.size 65 [.int .i64 0, .int .i64 0, .int .i64 0, .int .u64 1] by rw [← hW6]; exact rowAt.made _ _ _)
        have b6 : Below wc.heap.size wc W6 := by rw [← hW6]; exact down_alloc (Below.refl _ _) _
        have I6 := Lib.hid (Q1.out.more b6)
        have S6 := Lib.hid (Q2.out.below b6 Q2.out.lt)
        obtain ⟨g2, hg2⟩ : ∃ g2, wc.heap.size = g2 := ⟨_, rfl⟩
        have LG := Lib.hid (show w.heap.size + 3 < g2 by rw [← hg2]; exact Q1.out.r3.lt)
        rw [hg2] at F6
        obtain ⟨W7, hW7⟩ : ∃ W7, W6.setCell ⟨w.heap.size + 3, 5, none⟩ (.slice (some ⟨g2, 0, none⟩) 1 1) = W7 := ⟨_, rfl⟩
        have I7 := Lib.hid (show StIn w W7 [.slice (some ⟨fb, fo, none⟩) P.1.length c1, .slice a2 P.2.1.length c2, .slice a3 P.2.2.length c3] [.int .i64 y0, .int .i64 y1, .int .i64 y2, .int .i64 y3, .slice (some ⟨g1, 0, none⟩) L L, .slice (some ⟨g2, 0, none⟩) 1 1, .slice none 0 0, .int .i64 0, .int .u64 1, .int .i64 0] [.int .i64 y0, .int .i64 y1, .int .i64 y2, .int .i64 y3] by rw [← hW7]; exact I6.out.set 5 _)
        have F7 := Lib.hid (show rowAt W7 g2 65 [.int .i64 0, .int .i64 0, .int .i64 0, .int .u64 1] by rw [← hW7]; exact F6.out.other _ _ (Nat.ne_of_gt LG.out))
        have S7 := Lib.hid (show rowAt W7 g1 43 (repR L 1) by rw [← hW7]; exact S6.out.other _ _ (Nat.ne_of_gt Q3.out))
        have x5 : W6.cell? ⟨w.heap.size + 3, 5, none⟩ = some (.slice none 0 0) := (I6.out.r3.cell 5).trans rfl
        have x5f := I6.out.r3.free 5
        have x5l := I6.out.r3.lt
        obtain ⟨e0, e1, e2, e3, e4, e5, e6, e7, e8, e9⟩ := cells10 I7.out.r3
        obtain ⟨v0, v1, v2, v3, v4, v5, v6, v7, v8, v9⟩ := cells10 I7.out.r2
        obtain ⟨m0, m1, m2, m3, m4, m5, m6, m7, m8, m9⟩ := frees10 I7.out.r2
        have vl := I7.out.r2.lt
        have FIN : ∀ WF, Upon (fun k => k = w.heap.size + 2) W7 WF → ThPost w (startP y0 y1 y2 y3 P) (.returned (maV y0 y1 y2 y3 (.slice (some ⟨g1, 0, none⟩) L L) (.slice (some ⟨g2, 0, none⟩) 1 1) (.slice none 0 0) 0 1 0)) WF := fun WF hu => by
          have q3 := Q3.out
          have lg := LG.out
          rw [E.out]
          refine ⟨_, _, _, rfl, ⟨?_, ?_, rd_nil⟩, I7.out.hb.trans (hu.belowB I7.out.hb.size fun k hk => by omega)⟩
          · simp only [startYes, List.length_replicate]
            exact rd_row (S7.out.upon hu (by omega)) (by omega) fun _ _ h => by simpa [repR] using h
          · simp only [startYes]
            exact rd_row (F7.out.upon hu (by omega)) (by omega) fun _ _ h => by simpa [frL, frC] using h
        have FN := Lib.hid FIN
        clear FIN b6
        go_wp2_with fail
        refine (int_0 _).mono ?_
        rintro e w8 ⟨rfl, rfl⟩
        go_wp2_with fail
        refine bodyPost_ret (v := maV y0 y1 y2 y3 (.slice (some ⟨g1, 0, none⟩) L L) (.slice (some ⟨g2, 0, none⟩) 1 1) (.slice none 0 0) 0 1 0) (by simp [results, Tryz.results17, go_sem, v0, v1, v2, v3, v4, v5, v6, v7, v8, v9]) rfl (FN.out _ ?_)
        iterate 10 refine Upon.set1 ?_ (by rfl) _
        exact Upon.refl _ _
end Go.Proofs.YtajkkinolpkfmaaGreatDoor

/-
  The document's own examples for package frame ('wakes').
  Conditions: as each states.
-/
namespace Go.Proofs.YtajkkinolpkfmaaGreatDoor
set_option linter.unusedVariables false
set_option linter.unusedSimpArgs false
open Go.ChangeShapes Go.WideShapes Go.ChangeAt Go.RowKit
set_option maxRecDepth 100000

theorem rd_reads {S : Nat → Prop} {w : World} {v : Value} {n : Nat} {cs : List Value} (h : rdAt S w v n cs) : readsAt w v n cs := by
  obtain ⟨a, c, rfl, h⟩ := h
  exact ⟨a, c, rfl, h.imp id fun ⟨b, o, h1, _, _, h4⟩ => ⟨b, o, h1, h4⟩⟩
theorem keepWordsF_is {w : World} {u v : Value} {xs ys : List Int} (hu : readsAt w u xs.length (wdL xs)) (hv : readsAt w v ys.length (wdL ys)) (hx : xs.length ≤ 140737488355328) {b : Bool} (hb : decide (xs = ys) = b) :
    Calls Tryz.prog 23 #[u, v] w fun e w' => e = .returned (.bool b) ∧ ∃ q, w' = w.drewN q := hb ▸ keepWords_any hu hv hx

def SmallPostF (w : World) (l : List PIns) (e : Ending) (w' : World) : Prop :=
  ∃ a c, e = .returned (.agg #[.slice a 1 c, .slice none 0 0, .slice none 0 0]) ∧ prAt (fun _ => False) w' (.slice a 1 c) (.slice none 0 0) (.slice none 0 0) ([(0, 0, l)], [], []) ∧ Below w.heap.size w w'
theorem smallF_end {S : Nat → Prop} {w W : World} {l : List PIns} {g : Nat} {v : Value} (hv : rdAt S w v l.length (insL l)) (hb : Below w.heap.size w W) (c0 : W.cell? ⟨g, 0, none⟩ = some (.int .i64 0)) (c1 : W.cell? ⟨g, 1, none⟩ = some (.int .i64 0)) (c2 : W.cell? ⟨g, 2, none⟩ = some v) :
    SmallPostF w l (.returned (.agg #[.slice (some ⟨g, 0, none⟩) 1 1, .slice none 0 0, .slice none 0 0])) W := by
  refine ⟨_, _, rfl, ⟨⟨_, _, rfl, .inr ⟨g, 0, rfl, fun t => t, World.block_lt_of_cell? W _ c0, fun i x hx => ?_⟩⟩, ⟨none, 0, rfl, .inl rfl⟩, ⟨none, 0, rfl, .inl rfl⟩⟩, hb⟩
  cases i with
  | zero =>
    simp at hx
    subst hx
    exact ⟨by simpa using c0, by simpa using c1, v, by simpa using c2, (hv.off (T := fun _ => False) fun _ _ t => t.elim).below hb⟩
  | succ i => simp at hx
theorem smallF_any {S : Nat → Prop} {w : World} {v : Value} {l : List PIns} (h : rdAt S w v l.length (insL l)) :
    Calls Tryz.prog 33 #[v] w (SmallPostF w l) := by
  have HV := Lib.hid h
  obtain ⟨a, c, rfl⟩ := h.slice
  clear h
  go_enter Tryz.func33, Tryz.ntmps33
  go_wp2_with fail
  refine bodyPost_ret (v := .agg #[.slice (some ⟨w.heap.size + 1, 0, none⟩) 1 1, .slice none 0 0, .slice none 0 0]) (by simp [results, Tryz.results33, go_sem]) rfl (smallF_end HV.out ?_ ?_ ?_ ?_)
  · repeat (first | exact Below.refl _ _ | refine down_alloc ?_ _ | refine down_set ?_ (by simp) _)
  · simp [go_sem]
  · simp [go_sem]
  · simp [go_sem]

def PF0 : PPr := ([(0, 0, [(0, 1, 0), (9, 0, 0)])], [], [])
theorem pf0_good : prG PF0 = true := by decide +kernel
theorem pf0_fit : prF PF0 := by
  refine ⟨fun f hf => ?_, fun m hm => (by cases hm), fun s hs => (by cases hs), by decide, by decide, by decide⟩
  obtain rfl := List.mem_singleton.1 hf
  refine ⟨rfl, rfl, fun p hp => ?_, by decide⟩
  simp only [List.mem_cons, List.not_mem_nil, or_false] at hp
  rcases hp with rfl | rfl <;> exact ⟨rfl, rfl, rfl⟩
def MF0 : PMa := ⟨0, 9, 0, 0, [], [(0, 0, 0, 1)], [], 0, 1, 0⟩
def MF1 : PMa := ⟨0, 9, 0, 0, [], [(0, 0, 0, 1)], [(1, 0, 1)], 0, 1, 0⟩
theorem mf0_start : startP 0 9 0 0 PF0 = MF0 := by unfold startP; rw [if_pos pf0_good]; rfl
theorem mf0_roots : rootsP MF0 = [1, 1] := rfl
theorem mf0_with : withP MF0 0 9 0 0 [5, 7] = ⟨0, 9, 0, 0, [], [(0, 0, 0, 5)], [], 0, 7, 0⟩ := rfl
theorem mf0_throw : throwP MF0 (-3) = ⟨0, 9, 0, 0, [], [], [], 3, 1, -3⟩ := by kernel_rfl
theorem mf1_throw : throwP MF1 4 = ⟨0, 9, 0, 0, [9], [(0, 1, 0, 1)], [], 0, 1, 0⟩ := by kernel_rfl
theorem mf_fit {M : PMa} (h : M = MF0 ∨ M = MF1) : maF M := by rcases h with rfl | rfl <;> exact ⟨by decide, by decide, by decide⟩
theorem startF_0 {S : Nat → Prop} {w : World} {v1 v2 v3 : Value} (TT : OpTab w) (h : prAt S w v1 v2 v3 PF0) :
    Calls Tryz.prog 17 #[.agg #[.int .i64 0, .int .i64 9, .int .i64 0, .int .i64 0], .agg #[v1, v2, v3]] w fun e w' => ∃ sa sc fa fc ha hc, e = .returned (maV 0 9 0 0 (.slice sa 0 sc) (.slice fa 1 fc) (.slice ha 0 hc) 0 1 0) ∧ maAt (fun k => k < w.heap.size) w' (.slice sa 0 sc) (.slice fa 1 fc) (.slice ha 0 hc) MF0 ∧ Below w.heap.size w w' :=
  (start_any (y0 := 0) (y1 := 9) (y2 := 0) (y3 := 0) TT h pf0_fit).mono fun e w' hp => by
    rw [mf0_start] at hp
    obtain ⟨s, f, h, rfl, hm, hb⟩ := hp
    obtain ⟨sa, sc, rfl⟩ := hm.1.slice
    obtain ⟨fa, fc, rfl⟩ := hm.2.1.slice
    obtain ⟨ha, hc, rfl⟩ := hm.2.2.slice
    exact ⟨sa, sc, fa, fc, ha, hc, rfl, hm, hb⟩
theorem withF_0 {S S' : Nat → Prop} {w : World} {s f h : Value} {b cr : Nat} (k : maAt S w s f h MF0) (hv : rdAt S' w (.slice (some ⟨b, 0, none⟩) 2 cr) 2 (wdL [5, 7])) (hcr : 2 ≤ cr) :
    Calls Tryz.prog 14 #[maV 0 9 0 0 s f h 0 1 0, .agg #[.int .i64 0, .int .i64 9, .int .i64 0, .int .i64 0], .slice (some ⟨b, 0, none⟩) 2 cr] w fun e w' => ∃ sa sc ha hc fb fo fc, e = .returned (.tuple #[maV 0 9 0 0 (.slice sa 0 sc) (.slice (some ⟨fb, fo, none⟩) 1 fc) (.slice ha 0 hc) 0 7 0, .bool true]) ∧ w.heap.size ≤ fb ∧ fb < w'.heap.size ∧ w'.cell? ⟨fb, fo + 3, none⟩ = some (.int .u64 5) ∧ Below w.heap.size w w' :=
  (with_yes (rs := [5, 7]) k (mf_fit (.inl rfl)) hv hcr rfl).mono fun e w' hp => by
    obtain ⟨s', f', h', rfl, hm, hb⟩ := hp
    obtain ⟨sa, sc, rfl⟩ := hm.1.slice
    obtain ⟨ha, hc, rfl⟩ := hm.2.2.slice
    obtain ⟨fa, fc, he, hf⟩ := hm.2.1
    rcases hf with hf | ⟨fb, fo, rfl, hge, hlt, hel⟩
    · exact absurd hf (by decide)
    · cases he
      exact ⟨sa, sc, ha, hc, fb, fo, fc, rfl, Nat.not_lt.1 hge, hlt, hel 3 _ rfl, hb⟩
theorem throwF_0 {S : Nat → Prop} {w : World} {s f h : Value} (k : maAt S w s f h MF0) :
    Calls Tryz.prog 20 #[maV 0 9 0 0 s f h 0 1 0, .int .i64 (-3)] w fun e w' => ∃ sa sc fa fc ha hc, e = .returned (maV 0 9 0 0 (.slice sa 0 sc) (.slice fa 0 fc) (.slice ha 0 hc) 3 1 (-3)) ∧ Below w.heap.size w w' :=
  (throw_any MF0 (-3) k (mf_fit (.inl rfl))).mono fun e w' hp => by
    rw [mf0_throw] at hp
    obtain ⟨s', f', h', rfl, hm, hb⟩ := hp
    obtain ⟨sa, sc, rfl⟩ := hm.1.slice
    obtain ⟨fa, fc, rfl⟩ := hm.2.1.slice
    obtain ⟨ha, hc, rfl⟩ := hm.2.2.slice
    exact ⟨sa, sc, fa, fc, ha, hc, rfl, hb⟩
theorem throwF_1 {S : Nat → Prop} {w : World} {s f h : Value} (k : maAt S w s f h MF1) :
    Calls Tryz.prog 20 #[maV 0 9 0 0 s f h 0 1 0, .int .i64 4] w fun e w' => ∃ sa sc fb fo fc ha hc, e = .returned (maV 0 9 0 0 (.slice sa 1 sc) (.slice (some ⟨fb, fo, none⟩) 1 fc) (.slice ha 0 hc) 0 1 0) ∧ rdAt (fun k => k < w.heap.size) w' (.slice sa 1 sc) 1 (wdL [9]) ∧ fb < w'.heap.size ∧ w'.cell? ⟨fb, fo + 1, none⟩ = some (.int .i64 1) ∧ Below w.heap.size w w' :=
  (throw_any MF1 4 k (mf_fit (.inr rfl))).mono fun e w' hp => by
    rw [mf1_throw] at hp
    obtain ⟨s', f', h', rfl, hm, hb⟩ := hp
    obtain ⟨sa, sc, rfl⟩ := hm.1.slice
    obtain ⟨ha, hc, rfl⟩ := hm.2.2.slice
    obtain ⟨fa, fc, he, hf⟩ := hm.2.1
    rcases hf with hf | ⟨fb, fo, rfl, -, hlt, hel⟩
    · exact absurd hf (by decide)
    · cases he
      exact ⟨sa, sc, fb, fo, fc, ha, hc, rfl, hm.1, hlt, hel 1 _ rfl, hb⟩

set_option maxHeartbeats 8000000 in
theorem wakesF_any (w : World) (TT : OpTab w) : Calls Tryz.prog 12 #[] w fun e w' => e = .returned (.bool true) ∧ Below w.heap.size w w' := by
  obtain ⟨W, hW⟩ : ∃ W, w.alloc (.cells #[.int .i64 0, .int .i64 1, .int .i64 0, .int .i64 9, .int .i64 0, .int .i64 0] 85) = W := ⟨_, rfl⟩
  have BW := Lib.hid (show Below w.heap.size w W by rw [← hW]; exact down_alloc (Below.refl _ _) _)
  have rW : rowAt W w.heap.size 85 [.int .i64 0, .int .i64 1, .int .i64 0, .int .i64 9, .int .i64 0, .int .i64 0] := by rw [← hW]; exact rowAt.made _ _ _
  have RV := Lib.hid (show rdAt (fun _ => False) W (.slice (some ⟨w.heap.size, 0, none⟩) 2 2) 2 (insL [(0, 1, 0), (9, 0, 0)]) from rd_row rW (fun t => t) fun _ _ h => h)
  go_enter Tryz.func12, Tryz.ntmps12
  go_wp2_with fail
  clear hW
  refine (smallF_any (l := [(0, 1, 0), (9, 0, 0)]) RV.out).mono ?_
  rintro e w1 ⟨a1, c1, rfl, hp, hb⟩
  have B1 := Lib.hid (down_call BW.out hb)
  have HP := Lib.hid hp
  clear hp hb rW
  go_wp2_with fail
  obtain ⟨V1, hV1⟩ : ∃ V, w1.alloc (.cells #[.slice a1 1 c1, .slice none 0 0, .slice none 0 0] 37) = V := ⟨_, rfl⟩
  have bV1 : Below w1.heap.size w1 V1 := by rw [← hV1]; exact down_alloc (Below.refl _ _) _
  have C1 := Lib.hid (down_call B1.out bV1)
  have P1 := Lib.hid (HP.out.below bV1)
  have rV1 : rowAt V1 w1.heap.size 37 [.slice a1 1 c1, .slice none 0 0, .slice none 0 0] := by rw [← hV1]; exact rowAt.made _ _ _
  clear bV1 rV1
  rw [hV1]
  clear hV1
  refine (startF_0 (TT.below C1.out) P1.out).mono ?_
  rintro e w2 ⟨sa, sc, fa, fc, ha, hc, rfl, hm, hb⟩
  have B2 := Lib.hid (down_call C1.out hb)
  clear hb
  go_wp2_with fail
  obtain ⟨V2, hV2⟩ : ∃ V, w2.alloc (.cells #[.int .i64 0, .int .i64 9, .int .i64 0, .int .i64 0, .slice sa 0 sc, .slice fa 1 fc, .slice ha 0 hc, .int .i64 0, .int .u64 1, .int .i64 0] 45) = V := ⟨_, rfl⟩
  have bV2 : Below w2.heap.size w2 V2 := by rw [← hV2]; exact down_alloc (Below.refl _ _) _
  have C2 := Lib.hid (down_call B2.out bV2)
  have K2 := Lib.hid ((hm.off (T := fun k => w2.heap.size ≤ k) fun k hk t => absurd hk (by omega)).below bV2)
  have R2 := Lib.hid (show rowAt V2 w2.heap.size 45 [.int .i64 0, .int .i64 9, .int .i64 0, .int .i64 0, .slice sa 0 sc, .slice fa 1 fc, .slice ha 0 hc, .int .i64 0, .int .u64 1, .int .i64 0] by rw [← hV2]; exact rowAt.made _ _ _)
  clear bV2 hm
  rw [hV2]
  clear hV2
  refine (roots_any MF0 K2.out (mf_fit (.inl rfl))).mono ?_
  rintro e w3 ⟨rv, rfl, hro, hb⟩
  rw [mf0_roots] at hro
  obtain ⟨ra, rc, rfl⟩ := owns_slice hro
  have B3 := Lib.hid (down_call C2.out hb)
  have K3 := Lib.hid (K2.out.below hb)
  have R3 := Lib.hid (R2.out.below hb R2.out.lt)
  have RR := Lib.hid (rdAt.of_owns (S := fun k => k = w2.heap.size) hro fun g hg e => by have := (own_ge hro g hg).1; have := R2.out.lt; omega)
  simp only [List.length_cons, List.length_nil, Nat.zero_add, Nat.reduceAdd] at RR ⊢
  clear hro hb
  obtain ⟨x0, x1, x2, x3, x4, x5, x6, x7, x8, x9⟩ := cells10 R3.out
  obtain ⟨V3, hV3⟩ : ∃ V, w3.alloc (.cells #[.int .u64 5, .int .u64 7] 43) = V := ⟨_, rfl⟩
  have bV3 : Below w3.heap.size w3 V3 := by rw [← hV3]; exact down_alloc (Below.refl _ _) _
  have C3 := Lib.hid (down_call B3.out bV3)
  have K3' := Lib.hid (K3.out.below bV3)
  have R3' := Lib.hid (R3.out.below bV3 R3.out.lt)
  have RR3 := Lib.hid (RR.out.below bV3)
  have N3 := Lib.hid (show rdAt (fun _ => False) V3 (.slice (some ⟨w3.heap.size, 0, none⟩) 2 2) 2 (wdL [5, 7]) by rw [← hV3]; exact rd_row (rowAt.made _ _ _) (fun t => t) fun _ _ h => h)
  clear bV3
  go_wp2_with fail
  clear hV3 x0 x1 x2 x3 x4 x5 x6 x7 x8 x9
  refine (withF_0 K3'.out N3.out (Nat.le_refl _)).mono ?_
  rintro e w4 ⟨sa4, sc4, ha4, hc4', fb4, fo4, fc4, rfl, hg4, hl4, hc4, hb⟩
  have G4 := Lib.hid (show w2.heap.size < fb4 from Nat.lt_of_lt_of_le R3'.out.lt hg4)
  have G5 := Lib.hid (show w2.heap.size < w4.heap.size from Nat.lt_of_lt_of_le R3'.out.lt hb.size)
  clear hg4
  have B4 := Lib.hid (down_call C3.out hb)
  have K4 := Lib.hid (K3'.out.below hb)
  have R4 := Lib.hid (R3'.out.below hb R3'.out.lt)
  have RR4 := Lib.hid (RR3.out.below hb)
  clear hb
  obtain ⟨x0, x1, x2, x3, x4, x5, x6, x7, x8, x9⟩ := cells10 R4.out
  have xl := R4.out.lt
  go_wp2_with fail
  clear x0 x1 x2 x3 x4 x5 x6 x7 x8 x9 xl
  obtain ⟨V4, hV4⟩ : ∃ V, w4.alloc (.cells #[.int .i64 0, .int .i64 9, .int .i64 0, .int .i64 0, .slice sa4 0 sc4, .slice (some ⟨fb4, fo4, none⟩) 1 fc4, .slice ha4 0 hc4', .int .i64 0, .int .u64 7, .int .i64 0] 45) = V := ⟨_, rfl⟩
  have bV4 : Below w4.heap.size w4 V4 := by rw [← hV4]; exact down_alloc (Below.refl _ _) _
  have C4 := Lib.hid (down_call B4.out bV4)
  have K4' := Lib.hid (K4.out.below bV4)
  have R4' := Lib.hid (R4.out.below bV4 R4.out.lt)
  have RR4' := Lib.hid (RR4.out.below bV4)
  have Q4 := Lib.hid (show rowAt V4 w4.heap.size 45 [.int .i64 0, .int .i64 9, .int .i64 0, .int .i64 0, .slice sa4 0 sc4, .slice (some ⟨fb4, fo4, none⟩) 1 fc4, .slice ha4 0 hc4', .int .i64 0, .int .u64 7, .int .i64 0] by rw [← hV4]; exact rowAt.made _ _ _)
  have L4 := Lib.hid (show fb4 < V4.heap.size from Nat.lt_of_lt_of_le hl4 bV4.size)
  have D4 := Lib.hid (show V4.cell? ⟨fb4, fo4 + 3, none⟩ = some (.int .u64 5) from (bV4.cell (p := ⟨fb4, fo4 + 3, none⟩) hl4).trans hc4)
  clear bV4 hl4 hc4
  rw [hV4]
  clear hV4
  refine (with_no (rs := []) (S' := fun _ => False) K4'.out (mf_fit (.inl rfl)) rd_nil (by decide)).mono ?_
  rintro e w5 ⟨rfl, hb⟩
  have B5 := Lib.hid (down_call C4.out hb)
  have R5a := R4'.out.below hb R4'.out.lt
  obtain ⟨x0, x1, x2, x3, x4, x5, x6, x7, x8, x9⟩ := cells10 R5a
  have xl := R5a.lt
  go_wp2_with fail
  clear x0 x1 x2 x3 x4 x5 x6 x7 x8 x9 xl R5a
  obtain ⟨V5, hV5⟩ : ∃ V, w5.alloc (.cells #[.int .i64 0, .int .i64 0, .int .i64 0, .int .i64 0, .slice none 0 0, .slice none 0 0, .slice none 0 0, .int .i64 0, .int .u64 0, .int .i64 0] 45) = V := ⟨_, rfl⟩
  have bV5 : Below V4.heap.size V4 V5 := by rw [← hV5]; exact down_alloc hb _
  have C5 := Lib.hid (down_call C4.out bV5)
  have K5 := Lib.hid (K4'.out.below bV5)
  have R5 := Lib.hid (R4'.out.below bV5 R4'.out.lt)
  have RR5 := Lib.hid (RR4'.out.below bV5)
  have Q5 := Lib.hid (Q4.out.below bV5 Q4.out.lt)
  have L5 := Lib.hid (show fb4 < V5.heap.size from Nat.lt_of_lt_of_le L4.out bV5.size)
  have D5 := Lib.hid (show V5.cell? ⟨fb4, fo4 + 3, none⟩ = some (.int .u64 5) from (bV5.cell (p := ⟨fb4, fo4 + 3, none⟩) L4.out).trans D4.out)
  clear bV5 hb
  rw [hV5]
  clear hV5
  refine (throwF_0 K5.out).mono ?_
  rintro e w6 ⟨sa6, sc6, fa6, fc6, ha6, hc6, rfl, hb⟩
  have R6 := Lib.hid (R5.out.below hb R5.out.lt)
  have K6 := Lib.hid (K5.out.below hb)
  have RR6 := Lib.hid (RR5.out.below hb)
  have Q6 := Lib.hid (Q5.out.below hb Q5.out.lt)
  have L6 := Lib.hid (show fb4 < w6.heap.size from Nat.lt_of_lt_of_le L5.out hb.size)
  have D6 := Lib.hid (show w6.cell? ⟨fb4, fo4 + 3, none⟩ = some (.int .u64 5) from (hb.cell (p := ⟨fb4, fo4 + 3, none⟩) L5.out).trans D5.out)
  have C6 := Lib.hid (down_call C5.out hb)
  have G6 := Lib.hid (show w2.heap.size < w6.heap.size from R6.out.lt)
  obtain ⟨x0, x1, x2, x3, x4, x5, x6, x7, x8, x9⟩ := cells10 R6.out
  have x6f := R6.out.free 6
  have xl := R6.out.lt
  clear hb
  go_wp2_with fail
  clear x0 x1 x2 x3 x4 x5 x6 x7 x8 x9 xl x6f
  have SX := Lib.hid (show (w6.setCell ⟨w2.heap.size, 6, none⟩ (.slice (some ⟨w6.heap.size + 1, 0, none⟩) 1 1)).heap.size = w6.heap.size by simp [World.setCell])
  have U8 := Lib.hid (show Upon (fun k => k = w2.heap.size) w6 (((w6.setCell ⟨w2.heap.size, 6, none⟩ (.slice (some ⟨w6.heap.size + 1, 0, none⟩) 1 1)).alloc (.cells #[.int .i64 0, .int .i64 9, .int .i64 0, .int .i64 0, .slice sa6 0 sc6, .slice fa6 0 fc6, .slice ha6 0 hc6, .int .i64 3, .int .u64 1, .int .i64 (-3)] 45)).alloc (.cells #[.int .i64 1, .int .i64 0, .int .i64 1] 63)) from
    (Upon.setCell (S := fun k => k = w2.heap.size) _ _ rfl).trans (Upon.of_below (S := fun _ => False) (down_alloc (down_alloc (Below.refl _ _) _) _)) fun _ _ t => False.elim t)
  have R8 := Lib.hid (((R6.out.set 6 (.slice (some ⟨w6.heap.size + 1, 0, none⟩) 1 1)).alloc (.cells #[.int .i64 0, .int .i64 9, .int .i64 0, .int .i64 0, .slice sa6 0 sc6, .slice fa6 0 fc6, .slice ha6 0 hc6, .int .i64 3, .int .u64 1, .int .i64 (-3)] 45)).alloc (.cells #[.int .i64 1, .int .i64 0, .int .i64 1] 63))
  have T8 := Lib.hid ((rowAt.made_at (w := (w6.setCell ⟨w2.heap.size, 6, none⟩ (.slice (some ⟨w6.heap.size + 1, 0, none⟩) 1 1))) (b := w6.heap.size) 45 [.int .i64 0, .int .i64 9, .int .i64 0, .int .i64 0, .slice sa6 0 sc6, .slice fa6 0 fc6, .slice ha6 0 hc6, .int .i64 3, .int .u64 1, .int .i64 (-3)] SX.out.symm).alloc (.cells #[.int .i64 1, .int .i64 0, .int .i64 1] 63))
  have H8 := Lib.hid (rowAt.made_at (w := (w6.setCell ⟨w2.heap.size, 6, none⟩ (.slice (some ⟨w6.heap.size + 1, 0, none⟩) 1 1)).alloc (.cells #[.int .i64 0, .int .i64 9, .int .i64 0, .int .i64 0, .slice sa6 0 sc6, .slice fa6 0 fc6, .slice ha6 0 hc6, .int .i64 3, .int .u64 1, .int .i64 (-3)] 45)) (b := w6.heap.size + 1) 63 [.int .i64 1, .int .i64 0, .int .i64 1] (by rw [World.size_alloc, SX.out]))
  obtain ⟨V8, hV8⟩ : ∃ V, ((w6.setCell ⟨w2.heap.size, 6, none⟩ (.slice (some ⟨w6.heap.size + 1, 0, none⟩) 1 1)).alloc (.cells #[.int .i64 0, .int .i64 9, .int .i64 0, .int .i64 0, .slice sa6 0 sc6, .slice fa6 0 fc6, .slice ha6 0 hc6, .int .i64 3, .int .u64 1, .int .i64 (-3)] 45)).alloc (.cells #[.int .i64 1, .int .i64 0, .int .i64 1] 63) = V := ⟨_, rfl⟩
  rw [hV8] at U8 R8 T8 H8 ⊢
  have g6 := G6.out
  have g4 := G4.out
  have g5 := G5.out
  have C8 := Lib.hid (show Below w.heap.size w V8 from C6.out.trans (U8.out.belowB C6.out.size fun k hk => by have := B2.out.size; omega))
  have K8 := Lib.hid (show maAt (fun _ => False) V8 (.slice sa 0 sc) (.slice fa 1 fc) (.slice (some ⟨w6.heap.size + 1, 0, none⟩) 1 1) MF1 from
    ⟨(K6.out.1.upon U8.out fun k _ e => Nat.le_of_eq e.symm).off fun _ _ t => t.elim, (K6.out.2.1.upon U8.out fun k _ e => Nat.le_of_eq e.symm).off fun _ _ t => t.elim, rd_row H8.out (fun t => t) fun _ _ h => h⟩)
  have RR8 := Lib.hid ((RR6.out.upon U8.out fun k _ e => e).off (T := fun _ => False) fun _ _ t => t.elim)
  have Q8 := Lib.hid (Q6.out.upon U8.out (by omega))
  have D8 := Lib.hid (show V8.cell? ⟨fb4, fo4 + 3, none⟩ = some (.int .u64 5) from (cell_upon U8.out L6.out (by omega)).trans D6.out)
  have L8 := Lib.hid (show fb4 < V8.heap.size from Nat.lt_of_lt_of_le L6.out U8.out.size)
  clear hV8 g6 g4 g5
  refine (throwF_1 K8.out).mono ?_
  rintro e w8 ⟨sa9, sc9, fb9, fo9, fc9, ha9, hc9, rfl, hs9, hl9, hd9, hb⟩
  have R9 := R8.out.below hb R8.out.lt
  have T9 := T8.out.below hb T8.out.lt
  have Q9 := Q8.out.below hb Q8.out.lt
  have RR9 := Lib.hid (RR8.out.below hb)
  have C9 := Lib.hid (down_call C8.out hb)
  have S9 := Lib.hid hs9
  have z4 : w8.cell? ⟨w2.heap.size, 4, none⟩ = some (.slice sa 0 sc) := (R9.cell 4).trans rfl
  have z5 : w8.cell? ⟨w2.heap.size, 5, none⟩ = some (.slice fa 1 fc) := (R9.cell 5).trans rfl
  have zl := R9.lt
  have y5 : w8.cell? ⟨w4.heap.size, 5, none⟩ = some (.slice (some ⟨fb4, fo4, none⟩) 1 fc4) := (Q9.cell 5).trans rfl
  have y8 : w8.cell? ⟨w4.heap.size, 8, none⟩ = some (.int .u64 7) := (Q9.cell 8).trans rfl
  have yl := Q9.lt
  have d9 : w8.cell? ⟨fb4, fo4 + 3, none⟩ = some (.int .u64 5) := (hb.cell (p := ⟨fb4, fo4 + 3, none⟩) L8.out).trans D8.out
  have dl : fb4 < w8.heap.size := Nat.lt_of_lt_of_le L8.out hb.size
  have u5 : w8.cell? ⟨w6.heap.size, 5, none⟩ = some (.slice fa6 0 fc6) := (T9.cell 5).trans rfl
  have u7 : w8.cell? ⟨w6.heap.size, 7, none⟩ = some (.int .i64 3) := (T9.cell 7).trans rfl
  have u9 : w8.cell? ⟨w6.heap.size, 9, none⟩ = some (.int .i64 (-3)) := (T9.cell 9).trans rfl
  have ul := T9.lt
  clear R9 T9 Q9 hb hs9
  go_wp2_with fail
  have dfl := hl9
  have KA : readsAt ((w8.alloc (.cells #[.int .i64 0, .int .i64 9, .int .i64 0, .int .i64 0, .slice sa9 1 sc9, .slice (some ⟨fb9, fo9, none⟩) 1 fc9, .slice ha9 0 hc9, .int .i64 0, .int .u64 1, .int .i64 0] 45)).alloc (.cells #[.int .u64 1, .int .u64 1] 43)) (.slice ra 2 rc) 2 (wdL [1, 1]) := rd_reads (RR9.out.below (down_alloc (down_alloc (Below.refl _ _) _) _))
  have KB : readsAt ((w8.alloc (.cells #[.int .i64 0, .int .i64 9, .int .i64 0, .int .i64 0, .slice sa9 1 sc9, .slice (some ⟨fb9, fo9, none⟩) 1 fc9, .slice ha9 0 hc9, .int .i64 0, .int .u64 1, .int .i64 0] 45)).alloc (.cells #[.int .u64 1, .int .u64 1] 43)) (.slice (some ⟨w8.heap.size + 1, 0, none⟩) 2 2) 2 (wdL [1, 1]) := rd_reads (S := fun _ => False) (rd_row (rowAt.made_at (b := w8.heap.size + 1) 43 [.int .u64 1, .int .u64 1] (by rw [World.size_alloc])) (fun t => t) fun _ _ h => h)
  have KAH := Lib.hid KA
  have KBH := Lib.hid KB
  clear KA KB
  refine (keepWordsF_is (w := (w8.alloc (.cells #[.int .i64 0, .int .i64 9, .int .i64 0, .int .i64 0, .slice sa9 1 sc9, .slice (some ⟨fb9, fo9, none⟩) 1 fc9, .slice ha9 0 hc9, .int .i64 0, .int .u64 1, .int .i64 0] 45)).alloc (.cells #[.int .u64 1, .int .u64 1] 43)) (xs := [1, 1]) (ys := [1, 1]) (b := true) KAH.out KBH.out (by decide) rfl).mono ?_
  rintro e w9 ⟨rfl, q, rfl⟩
  go_wp2_with fail
  have KC : readsAt ((((w8.alloc (.cells #[.int .i64 0, .int .i64 9, .int .i64 0, .int .i64 0, .slice sa9 1 sc9, .slice (some ⟨fb9, fo9, none⟩) 1 fc9, .slice ha9 0 hc9, .int .i64 0, .int .u64 1, .int .i64 0] 45)).alloc (.cells #[.int .u64 1, .int .u64 1] 43)).drewN q).alloc (.cells #[.int .u64 9] 43)) (.slice sa9 1 sc9) 1 (wdL [9]) := rd_reads (S9.out.below (down_alloc (down_drewN (down_alloc (down_alloc (Below.refl _ _) _) _) _) _))
  have KD : readsAt ((((w8.alloc (.cells #[.int .i64 0, .int .i64 9, .int .i64 0, .int .i64 0, .slice sa9 1 sc9, .slice (some ⟨fb9, fo9, none⟩) 1 fc9, .slice ha9 0 hc9, .int .i64 0, .int .u64 1, .int .i64 0] 45)).alloc (.cells #[.int .u64 1, .int .u64 1] 43)).drewN q).alloc (.cells #[.int .u64 9] 43)) (.slice (some ⟨w8.heap.size + 1 + 1, 0, none⟩) 1 1) 1 (wdL [9]) := rd_reads (S := fun _ => False) (rd_row (rowAt.made_at (b := w8.heap.size + 1 + 1) 43 [.int .u64 9] (by simp [World.drewN])) (fun t => t) fun _ _ h => h)
  refine (keepWordsF_is (w := (((w8.alloc (.cells #[.int .i64 0, .int .i64 9, .int .i64 0, .int .i64 0, .slice sa9 1 sc9, .slice (some ⟨fb9, fo9, none⟩) 1 fc9, .slice ha9 0 hc9, .int .i64 0, .int .u64 1, .int .i64 0] 45)).alloc (.cells #[.int .u64 1, .int .u64 1] 43)).drewN q).alloc (.cells #[.int .u64 9] 43)) (xs := [9]) (ys := [9]) (b := true) KC KD (by decide) rfl).mono ?_
  rintro e w10 ⟨rfl, q2, rfl⟩
  have bY : Below w8.heap.size w8 ((((w8.alloc (.cells #[.int .i64 0, .int .i64 9, .int .i64 0, .int .i64 0, .slice sa9 1 sc9, .slice (some ⟨fb9, fo9, none⟩) 1 fc9, .slice ha9 0 hc9, .int .i64 0, .int .u64 1, .int .i64 0] 45)).alloc (.cells #[.int .u64 1, .int .u64 1] 43)).drewN q).alloc (.cells #[.int .u64 9] 43)) := down_alloc (down_drewN (down_alloc (down_alloc (Below.refl _ _) _) _) _) _
  have rY : rowAt ((((w8.alloc (.cells #[.int .i64 0, .int .i64 9, .int .i64 0, .int .i64 0, .slice sa9 1 sc9, .slice (some ⟨fb9, fo9, none⟩) 1 fc9, .slice ha9 0 hc9, .int .i64 0, .int .u64 1, .int .i64 0] 45)).alloc (.cells #[.int .u64 1, .int .u64 1] 43)).drewN q).alloc (.cells #[.int .u64 9] 43)) w8.heap.size 45 [.int .i64 0, .int .i64 9, .int .i64 0, .int .i64 0, .slice sa9 1 sc9, .slice (some ⟨fb9, fo9, none⟩) 1 fc9, .slice ha9 0 hc9, .int .i64 0, .int .u64 1, .int .i64 0] := rowAt.alloc (show rowAt (((w8.alloc (.cells #[.int .i64 0, .int .i64 9, .int .i64 0, .int .i64 0, .slice sa9 1 sc9, .slice (some ⟨fb9, fo9, none⟩) 1 fc9, .slice ha9 0 hc9, .int .i64 0, .int .u64 1, .int .i64 0] 45)).alloc (.cells #[.int .u64 1, .int .u64 1] 43)).drewN q) w8.heap.size 45 [.int .i64 0, .int .i64 9, .int .i64 0, .int .i64 0, .slice sa9 1 sc9, .slice (some ⟨fb9, fo9, none⟩) 1 fc9, .slice ha9 0 hc9, .int .i64 0, .int .u64 1, .int .i64 0] from (rowAt.made w8 45 [.int .i64 0, .int .i64 9, .int .i64 0, .int .i64 0, .slice sa9 1 sc9, .slice (some ⟨fb9, fo9, none⟩) 1 fc9, .slice ha9 0 hc9, .int .i64 0, .int .u64 1, .int .i64 0]).alloc _) _
  have f9 := (bY.cell (p := ⟨fb9, fo9 + 1, none⟩) hl9).trans hd9
  have CY := Lib.hid (down_call C9.out bY)
  obtain ⟨Y, hY⟩ : ∃ Y, (((w8.alloc (.cells #[.int .i64 0, .int .i64 9, .int .i64 0, .int .i64 0, .slice sa9 1 sc9, .slice (some ⟨fb9, fo9, none⟩) 1 fc9, .slice ha9 0 hc9, .int .i64 0, .int .u64 1, .int .i64 0] 45)).alloc (.cells #[.int .u64 1, .int .u64 1] 43)).drewN q).alloc (.cells #[.int .u64 9] 43) = Y := ⟨_, rfl⟩
  rw [hY] at bY rY f9 CY ⊢
  have r5 := (rY.cell 5).trans rfl
  have r6 := (rY.cell 6).trans rfl
  clear hY bY rY
  go_wp2_with fail
  go_ret
  exact ⟨rfl, down_drewN CY.out _⟩
end Go.Proofs.YtajkkinolpkfmaaGreatDoor
