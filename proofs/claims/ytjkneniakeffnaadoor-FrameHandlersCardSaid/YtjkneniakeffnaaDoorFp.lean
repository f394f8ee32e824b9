/-
  slices.Repeat of one word.
  Conditions: as each states.
-/
import Derived.Test.YtjkneniakeffnaaDoorFa
namespace Go.Proofs.YtjkneniakeffnaaDoor
open Go.ChangeShapes Go.WideShapes Go.ChangeAt Go.RowKit
set_option linter.unusedVariables false
set_option linter.unusedSimpArgs false
set_option maxRecDepth 100000

def repR (n : Nat) (x : Int) : List Value := List.replicate n (.int .u64 x)
theorem repR_length (n : Nat) (x : Int) : (repR n x).length = n := by simp [repR]
theorem repR_app (a b : Nat) (x : Int) : repR (a + b) x = repR a x ++ repR b x := by simp [repR, List.replicate_append_replicate]
theorem repR_one {n : Nat} {x : Int} : ∀ u ∈ repR n x, u.oneCell' = true := by
  intro u hu
  obtain rfl := List.eq_of_mem_replicate hu
  rfl
theorem spl_repR {x : Int} {k m n : Nat} {zs : List Value} (hz : zs.length = n - k) (hm : m ≤ n - k) (hk : k ≤ n) :
    ∃ zs' : List Value, splF (repR k x ++ zs) k (repR m x) = repR (k + m) x ++ zs' ∧ zs'.length = n - (k + m) := by
  refine ⟨zs.drop m, ?_, by simp; omega⟩
  have h1 := repR_length k x
  have h2 := repR_length m x
  unfold splF
  rw [h2, List.take_append_of_le_length (by omega), List.take_of_length_le (by omega), List.drop_append, h1, List.drop_of_length_le (by omega), List.nil_append, show k + m - k = m by omega]
  rw [repR_app, List.append_assoc]
theorem mulR_any (n : Nat) (hn : n ≤ 600) (w : World) :
    Calls Tryd.prog 26 #[.int .u64 1, .int .u64 n] w fun e w' => e = .returned (.tuple #[.int .u64 0, .int .u64 n]) ∧ w' = w := by
  refine (Any.bits_Mul Tryd.laysNm212 1 n (by decide) (by omega) w).mono ?_
  rintro e w' ⟨rfl, hw⟩
  refine ⟨?_, hw⟩
  rw [Nat.one_mul, Nat.div_eq_of_lt (by omega), Nat.mod_eq_of_lt (by omega)]
  rfl
def RpPost (n : Nat) (x : Int) (w : World) (e : Ending) (w' : World) : Prop :=
  e = .returned (.slice (some ⟨w.heap.size, 0, none⟩) n n) ∧ rowAt w' w.heap.size 24 (repR n x) ∧ Below w.heap.size w w'
def RpIn (n k : Nat) (x : Int) (g : Nat) (w w' : World) : Prop := (∃ zs : List Value, rowAt w' g 24 (repR k x ++ zs) ∧ zs.length = n - k) ∧ Below w.heap.size w w'
theorem rp_end {n : Nat} {x : Int} {w w' : World} (h : RpIn n n x w.heap.size w w') : RpPost n x w (.returned (.slice (some ⟨w.heap.size, 0, none⟩) n n)) w' := by
  obtain ⟨⟨zs, h1, h2⟩, h3⟩ := h
  have : zs = [] := List.length_eq_zero_iff.1 (by omega)
  subst this
  rw [List.append_nil] at h1
  exact ⟨rfl, h1, h3⟩
theorem rp_step {n k m : Nat} {x : Int} {w wr W : World} {zs : List Value} (h1 : rowAt wr w.heap.size 24 (repR k x ++ zs)) (h2 : zs.length = n - k) (hb : Below w.heap.size w wr) (hm : m ≤ n - k) (hk : k ≤ n)
    (hW : W = wr.setRow w.heap.size (splF (repR k x ++ zs) k (repR m x)).toArray) : RpIn n (k + m) x w.heap.size w W := by
  subst hW
  obtain ⟨zs', e, hl⟩ := spl_repR (x := x) h2 hm hk
  refine ⟨⟨zs', ?_, hl⟩, hb.trans ((upon_setRowF _ _ _).belowB (Nat.le_of_lt h1.lt) (fun k e => by omega))⟩
  rw [← e]
  exact h1.setRowF
theorem make_rp (n : Nat) (hn : n ≤ 600) : ∃ zs : List Value, zs.length = n ∧ ∀ w : World, (Instr.makeSlice 31 (.int .i64 (n : Int)) (.int .i64 (n : Int))).run Tryd.prog w = .ok (.slice (some ⟨w.heap.size, 0, none⟩) n n) (w.alloc (.cells ⟨zs⟩ 24)) := by
  obtain ⟨i, hi, hz0, hz1, hz2⟩ := info_parts info_W
  have hb : (i.bytes : Int) * (n : Int) ≤ 281474976710656 := by rw [hz2]; omega
  refine ⟨(madeCells (Value.int .u64 0).cells (n * 1)).toList, by rw [Array.length_toList, size_madeCells]; simp [Value.cells], fun w => ?_⟩
  have hr := run_make (P := Tryd.prog) w 31 24 i _ under_W hi hz0 .i64 .i64 n n (by omega) (by omega) hb (by omega)
  simp only [Int.toNat_natCast] at hr
  rw [hr, hz1]

theorem w_srcR {w : World} {b o : Nat} {x : Int} (h0 : w.cell? ⟨b, o, none⟩ = some (.int .u64 x)) : ∀ j v, (repR 1 x)[j]? = some v → w.cell? ((⟨b, o, none⟩ : Addr).add j) = some v := by
  intro j v hj
  match j with
  | 0 => simp [repR] at hj; subst hj; exact h0
  | j + 1 => simp [repR] at hj
set_option maxHeartbeats 4000000 in
theorem repeatR_pos {w : World} {b o cap : Nat} {x : Int} {n : Nat} (hn : n ≤ 600) (hn0 : 0 < n) (h0 : w.cell? ⟨b, o, none⟩ = some (.int .u64 x)) :
    Calls Tryd.prog 18 #[.slice (some ⟨b, o, none⟩) 1 cap, .int .i64 n] w (RpPost n x w) := by
  have hb := World.block_lt_of_cell? w _ h0
  have n1 : ¬ ((9223372036854775807 : Int) < n) := by omega
  have n2 : (0 : Int) ≤ n := by omega
  obtain ⟨zs, hzl, hmk⟩ := make_rp n hn
  obtain ⟨W1, hW1⟩ : ∃ W, w.alloc (.cells ⟨zs⟩ 24) = W := ⟨_, rfl⟩
  have r1 : rowAt W1 w.heap.size 24 zs := by rw [← hW1]; exact rowAt.made _ _ _
  have b1 : Below w.heap.size w W1 := by rw [← hW1]; exact down_alloc (Below.refl _ _) _
  have e0 : W1.cell? ⟨b, o, none⟩ = some (.int .u64 x) := (b1.cell (p := ⟨b, o, none⟩) hb).trans h0
  have hmin : Nat.min 1 n = 1 := Nat.min_eq_left (by omega)
  have hcopy := run_copy_wideF (P := Tryd.prog) W1 31 31 3 24 w.heap.size 0 n n ⟨b, o, none⟩ 1 cap zs 24 (repR 1 x) 1 1 under_W size_W r1 hmin rfl (w_srcR e0) (by simp [repR]; omega) repR_one
  obtain ⟨W2, hW2⟩ : ∃ W, W1.setRow w.heap.size (splF zs 0 (repR 1 x)).toArray = W := ⟨_, rfl⟩
  rw [hW2] at hcopy
  have RI : Hid (RpIn n 1 x w.heap.size w W2) := by
    have := rp_step (n := n) (k := 0) (m := 1) (x := x) (w := w) (wr := W1) (W := W2) (zs := zs) (by simpa [repR] using r1) (by omega) b1 (by omega) (by omega) (by rw [← hW2]; simp [repR])
    exact this
  have hmI : (n : Int) * 0 = 0 := by omega
  clear hW2 r1 b1 e0 h0 hzl hmI
  go_enter Tryd.func18, Tryd.ntmps18
  go_wp2_with fail
  refine (mulR_any n hn w).mono ?_
  rintro e w' ⟨rfl, rfl⟩
  go_wp2_with fail
  clear hW1 hcopy hmk
  go_loopw [8] (fun i wr => ∃ k : Nat, 1 ≤ k ∧ k ≤ n ∧ i = .int .i64 k ∧ Hid (RpIn n k x w'.heap.size w' wr)) (fun i _ => n - (intOf i).toNat)
  case atStart => exact ⟨1, by omega, hn0, rfl, RI⟩
  case round =>
    obtain ⟨k, hk1, hk2, rfl, HR⟩ := hrel
    by_cases hlt : k < n
    · have hltI : (k : Int) < n := by omega
      have hs1 : ∀ w, (Instr.slice 31 (.slice (some ⟨w'.heap.size, 0, none⟩) n n) (some (.int .i64 (k : Int))) none none).run Tryd.prog w = .ok (.slice (some ⟨w'.heap.size, k, none⟩) (n - k) (n - k)) w := fun w => by
        obtain ⟨i, hi, hz0, hz1, hz2⟩ := info_parts info_W
        rw [run_slice_from_w _ _ under_W hi _ hk2 w, if_neg (by omega), hz1]
        simp [Addr.add]
        omega
      have hs2 : ∀ w, (Instr.slice 31 (.slice (some ⟨w'.heap.size, 0, none⟩) n n) none (some (.int .i64 (k : Int))) none).run Tryd.prog w = .ok (.slice (some ⟨w'.heap.size, 0, none⟩) k n) w := fun w => by
        obtain ⟨i, hi, hz0, hz1, hz2⟩ := info_parts info_W
        exact run_slice_to_w _ _ under_W hi _ hk2 (Nat.le_refl _) w
      obtain ⟨m, hm⟩ : ∃ m, m = Nat.min k (n - k) := ⟨_, rfl⟩
      have hmk : m ≤ n - k := by rw [hm]; exact Nat.min_le_right _ _
      have hm1 : 1 ≤ m := by rw [hm]; exact Nat.le_min.2 ⟨hk1, by omega⟩
      have hm2 : m ≤ k := by rw [hm]; exact Nat.min_le_left _ _
      obtain ⟨⟨zs2, z1, z2⟩, z3⟩ := HR.out
      have hlen := repR_length k x
      have hlem := repR_length m x
      have hsrc : ∀ j v, (repR m x)[j]? = some v → wr.drew.cell? ((⟨w'.heap.size, 0, none⟩ : Addr).add j) = some v := fun j v hj => by
        have z1' : rowAt wr.drew w'.heap.size 24 (repR k x ++ zs2) := z1
        have h : wr.drew.cell? ⟨w'.heap.size, 0 + j, none⟩ = some v := by
          rw [z1'.cell, Nat.zero_add]
          have hj2 := (List.getElem?_eq_some_iff.1 hj).1
          rw [show k = m + (k - m) by omega, repR_app, List.append_assoc, List.getElem?_append_left hj2]
          exact hj
        rw [show ((⟨w'.heap.size, 0, none⟩ : Addr).add j) = ⟨w'.heap.size, 0 + j, none⟩ by unfold Addr.add; split <;> simp_all]
        exact h
      have HZ1 := Lib.hid z1
      have HZ2 := Lib.hid z2
      have HZ3 := Lib.hid z3
      have HS := Lib.hid hsrc
      have HM := Lib.hid hm
      have HFIT := Lib.hid (show k + (repR m x).length ≤ (repR k x ++ zs2).length by rw [List.length_append, hlen, hlem, z2]; omega)
      have HL := Lib.hid hlem
      obtain ⟨cur, hcur⟩ : ∃ cur, repR k x ++ zs2 = cur := ⟨_, rfl⟩
      obtain ⟨cs, hcs⟩ : ∃ cs, repR m x = cs := ⟨_, rfl⟩
      have HO := Lib.hid (show ∀ v ∈ cs, v.oneCell' = true by rw [← hcs]; exact repR_one)
      have FIN := Lib.hid (show ∀ W, W = wr.drew.setRow w'.heap.size (splF cur k cs).toArray → RpIn n (k + m) x w'.heap.size w' W from fun W hW => rp_step (wr := wr.drew) HZ1.out HZ2.out (down_drew HZ3.out) hmk hk2 (by rw [hcur, hcs]; exact hW))
      rw [hcur] at HZ1 HFIT
      rw [hcs] at HS HFIT HL
      clear z1 z2 z3 hlen hlem hsrc hm hcur hcs HR
      have hc := run_copy_wideF (P := Tryd.prog) wr.drew 31 31 3 24 w'.heap.size k (n - k) (n - k) ⟨w'.heap.size, 0, none⟩ k n cur 24 cs m 1 under_W size_W HZ1.out HM.out.symm (by rw [HL.out, Nat.mul_one]) HS.out HFIT.out HO.out
      obtain ⟨W3, hW3⟩ : ∃ W, wr.drew.setRow w'.heap.size (splF cur k cs).toArray = W := ⟨_, rfl⟩
      rw [hW3] at hc
      have R3 := Lib.hid (FIN.out W3 hW3.symm)
      clear hW3
      go_wp2_with fail
      go_region
      go_wp2_with fail
      go_roundw
      case rel => exact ⟨k + m, by omega, by omega, by go_num, R3⟩
      case measure => simp [intOf]; omega
    · obtain rfl : k = n := by omega
      go_wp2_with fail
      go_ret
      exact rp_end HR.out

theorem repeatR_zero {w : World} {b o cap : Nat} {x : Int} (h0 : w.cell? ⟨b, o, none⟩ = some (.int .u64 x)) :
    Calls Tryd.prog 18 #[.slice (some ⟨b, o, none⟩) 1 cap, .int .i64 0] w (RpPost 0 x w) := by
  obtain ⟨zs, hzl, hmk⟩ := make_rp 0 (by omega)
  have : zs = [] := List.length_eq_zero_iff.1 hzl
  subst this
  obtain ⟨W1, hW1⟩ : ∃ W, w.alloc (.cells #[] 24) = W := ⟨_, rfl⟩
  have hmk0 : ∀ w : World, (Instr.makeSlice 31 (.int .i64 0) (.int .i64 0)).run Tryd.prog w = .ok (.slice (some ⟨w.heap.size, 0, none⟩) 0 0) (w.alloc (.cells #[] 24)) := hmk
  have r1 : rowAt W1 w.heap.size 24 [] := by rw [← hW1]; exact rowAt.made _ _ _
  have b1 : Below w.heap.size w W1 := by rw [← hW1]; exact down_alloc (Below.refl _ _) _
  have hcopy := run_copy_wideF (P := Tryd.prog) W1 31 31 3 24 w.heap.size 0 0 0 ⟨b, o, none⟩ 1 cap [] 24 [] 0 1 under_W size_W r1 rfl rfl (by simp) (by simp) (by simp)
  obtain ⟨W2, hW2⟩ : ∃ W, W1.setRow w.heap.size (splF [] 0 []).toArray = W := ⟨_, rfl⟩
  rw [hW2] at hcopy
  have R2 := Lib.hid (show rowAt W2 w.heap.size 24 (repR 0 x) by rw [← hW2]; exact r1.setRowF)
  have B2 := Lib.hid (show Below w.heap.size w W2 by rw [← hW2]; exact b1.trans ((upon_setRowF _ _ _).belowB (Nat.le_of_lt r1.lt) (fun k e => by omega)))
  have hm0 := mulR_any 0 (by omega) w
  have HM := Lib.hid hm0
  clear hW2 r1 b1 hmk hzl hm0
  go_enter Tryd.func18, Tryd.ntmps18
  go_wp2_with fail
  refine (HM.out).mono ?_
  rintro e w' ⟨rfl, rfl⟩
  go_wp2_with fail
  go_rounds 1
  go_ret
  exact ⟨rfl, R2.out, B2.out⟩
theorem repeatR_any {w : World} {b o cap : Nat} {x : Int} {n : Nat} (hn : n ≤ 600) (h0 : w.cell? ⟨b, o, none⟩ = some (.int .u64 x)) :
    Calls Tryd.prog 18 #[.slice (some ⟨b, o, none⟩) 1 cap, .int .i64 n] w (RpPost n x w) := by
  by_cases hz : n = 0
  · subst hz; exact repeatR_zero h0
  · exact repeatR_pos hn (by omega) h0
end Go.Proofs.YtjkneniakeffnaaDoor
