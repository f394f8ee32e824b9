/-
  Package code: the reader's numbers, counts, constructors, texts, instructions.
  Conditions: as each states.
-/
import Derived.Test.YtabdbciebhmflaaDoorCoN
import Derived.Laws.BytesArg
import Derived.Laws.IdiomStrings
namespace Go.Proofs.YtabdbciebhmflaaDoor
open Go.ChangeShapes Go.WideShapes Go.ChangeAt Go.RowKit
set_option linter.unusedVariables false
set_option linter.unusedSimpArgs false
set_option maxRecDepth 100000

/-- What a reader's call tells, and where the reader stands. -/
def NumPost (B0 : Nat) (w : World) (p : Nat) (v : Value) (s : Rd) (e : Ending) (w' : World) : Prop := e = .returned v ∧ RdAt B0 w' p s ∧ Upon (fun g => g = p) w w'

theorem rdNum_take (k : Nat) (s : Rd) : rdNum k s = (numOf (rdTake k s).1, (rdTake k s).2) := by
  unfold rdNum rdTake
  split <;> rfl
theorem rdTake_bd {s : Rd} (h : ∀ z ∈ s.1, 0 ≤ z ∧ z < 256) (k : Nat) : ∀ z ∈ (rdTake k s).1, 0 ≤ z ∧ z < 256 := by
  intro z hz
  unfold rdTake at hz
  split at hz
  · exact h z (List.mem_of_mem_take hz)
  · cases hz
theorem numOf_snoc (l : List Int) (z : Int) : numOf (l ++ [z]) = IntKind.i64.wrap (numOf l * 256 + z) := by simp [numOf]
theorem rdTake_rd {s : Rd} (h : ∀ z ∈ s.1, 0 ≤ z ∧ z < 256) (k : Nat) : ∀ z ∈ (rdTake k s).2.1, 0 ≤ z ∧ z < 256 := by
  intro z hz
  unfold rdTake at hz
  split at hz
  · exact h z (List.mem_of_mem_drop hz)
  · exact h z hz

set_option maxHeartbeats 1000000 in
theorem rnum_any {B0 : Nat} {w : World} {p : Nat} {s : Rd} (h : RdAt B0 w p s) (k : Nat) (hk : k ≤ maxLen) :
    Calls Tryd.prog 47 #[.pointer (some ⟨p, 0, none⟩), .int .i64 k] w (NumPost B0 w p (.int .i64 (rdNum k s).1) (rdNum k s).2) := by
  have E := Lib.hid (rdNum_take k s)
  have hbd := Lib.hid (rdTake_bd h.bd k)
  unfold maxLen at hk
  go_enter Tryd.func47, Tryd.ntmps47
  go_wp2_with fail
  refine (take_any h k).mono ?_
  rintro e w1 ⟨v, rfl, hv, hr, hu⟩
  have PO := Lib.hid (show ∀ (n : Int), n = numOf (rdTake k s).1 → NumPost B0 w p (.int .i64 (rdNum k s).1) (rdNum k s).2 (.returned (.int .i64 n)) w1 from fun n hn => ⟨by rw [E.out, hn], by rw [E.out]; exact hr, hu⟩)
  generalize (rdTake k s).1 = l at *
  obtain ⟨a, c, rfl, h1, h2, hv⟩ := hv
  have hl : l.length ≤ 9223372036854775807 := by unfold maxLen at h2; omega
  clear h1 h2 hr hu E
  rcases hv with h0 | ⟨b, o, rfl, -, -, hc⟩
  · have e := List.length_eq_zero_iff.1 h0
    subst e
    go_wp2_with fail
    go_rounds 1
    go_ret
    exact PO.out _ rfl
  · have HC := Lib.hid hc
    clear hc
    go_wp2_with fail
    go_loop [5, 12] (fun n i => ∃ j : Nat, j ≤ l.length ∧ i = .int .i64 j ∧ n = .int .i64 (numOf (l.take j))) (fun _ i => l.length - (intOf i).toNat)
    case atStart => exact ⟨0, Nat.zero_le _, rfl, rfl⟩
    case round =>
      obtain ⟨j, hj, rfl, rfl⟩ := hrel
      by_cases hlt : j < l.length
      · have e1 : w1.cell? ⟨b, o + j, none⟩ = some (.int .u8 l[j]) := HC.out j _ (List.getElem?_eq_getElem hlt)
        have hz := hbd.out _ (List.getElem_mem hlt)
        have hs := Lib.hid (show numOf (l.take (j + 1)) = IntKind.i64.wrap (numOf (l.take j) * 256 + l[j]) by rw [List.take_succ_eq_append_getElem hlt, numOf_snoc])
        generalize l[j] = z at *
        generalize numOf (l.take j) = N at *
        have ho := or_byte64 N z hz
        have hz0 : 0 ≤ z := hz.1
        have hz1 : z < 256 := hz.2
        have hz2 : IntKind.i64.wrap z = z := IntWalk.i64_in _ (by omega)
        clear hz
        go_wp2_with fail
        go_round
        case rel => exact ⟨j + 1, by omega, by go_num, by rw [hs.out, ← ho, IntWalk.i64_left]⟩
        case measure => simp [intOf]; omega
      · obtain rfl : j = l.length := by omega
        have P2 := Lib.hid (PO.out _ (show numOf (l.take l.length) = numOf l by rw [List.take_length]))
        go_wp2_with fail
        go_ret
        first | exact PO.out _ rfl | exact P2.out

theorem rdNum_bd {s : Rd} (h : ∀ z ∈ s.1, 0 ≤ z ∧ z < 256) (k : Nat) : ∀ z ∈ (rdNum k s).2.1, 0 ≤ z ∧ z < 256 := by
  rw [rdNum_take]; exact rdTake_rd h k

theorem RdAt.lose {B0 : Nat} {w : World} {p : Nat} {s : Rd} (h : RdAt B0 w p s) : RdAt B0 (w.setCell ⟨p, 1, none⟩ (.bool true)) p (s.1, true) := by
  obtain ⟨⟨v, hr, hv⟩, hlow, hbd⟩ := h
  have hu : Upon (fun g => g = p) w (w.setCell ⟨p, 1, none⟩ (.bool true)) := Upon.setCell _ _ rfl
  exact ⟨⟨v, hr.set 1 _, hv.upon hu (fun k _ e => by subst e; exact hlow)⟩, hlow, hbd⟩
theorem RdAt.cells {B0 : Nat} {w : World} {p : Nat} {s : Rd} (h : RdAt B0 w p s) : w.cell? ⟨p, 1, none⟩ = some (.bool s.2) ∧ w.frozen? ⟨p, 1, none⟩ = false := by
  obtain ⟨⟨v, hr, hv⟩, hlow, hbd⟩ := h
  exact ⟨(hr.cell 1).trans rfl, hr.free 1⟩

set_option maxHeartbeats 1000000 in
theorem count_any {B0 : Nat} {w : World} {p : Nat} {s : Rd} (h : RdAt B0 w p s) (k : Nat) (hk : k ≤ maxLen) (m : Int) :
    Calls Tryd.prog 38 #[.pointer (some ⟨p, 0, none⟩), .int .i64 k, .int .i64 m] w (NumPost B0 w p (.int .i64 (rdCnt k m s).1) (rdCnt k m s).2) := by
  have E := Lib.hid (show rdCnt k m s = if m < (rdNum k s).1 then (0, ((rdNum k s).2.1, true)) else rdNum k s from rfl)
  go_enter Tryd.func38, Tryd.ntmps38
  go_wp2_with fail
  refine (rnum_any h k hk).mono ?_
  rintro e w1 ⟨rfl, hr, hu⟩
  obtain ⟨c1, f1⟩ := hr.cells
  have HR := Lib.hid hr
  have HU := Lib.hid hu
  clear hr hu
  by_cases hm : m < (rdNum k s).1
  · have E2 := Lib.hid (show rdCnt k m s = (0, ((rdNum k s).2.1, true)) by rw [E.out, if_pos hm])
    have PO := Lib.hid (show NumPost B0 w p (.int .i64 (rdCnt k m s).1) (rdCnt k m s).2 (.returned (.int .i64 0)) (w1.setCell ⟨p, 1, none⟩ (.bool true)) from
      ⟨by rw [E2.out], by rw [E2.out]; exact HR.out.lose, HU.out.trans (Upon.setCell (S := fun g => g = p) _ _ rfl) fun _ _ h => h⟩)
    clear E E2 h hk
    generalize (rdNum k s).1 = N at *
    go_wp2_with fail
    go_ret
    exact PO.out
  · have E2 := Lib.hid (show rdCnt k m s = rdNum k s by rw [E.out, if_neg hm])
    have PO := Lib.hid (show NumPost B0 w p (.int .i64 (rdCnt k m s).1) (rdCnt k m s).2 (.returned (.int .i64 (rdNum k s).1)) w1 from
      ⟨by rw [E2.out], by rw [E2.out]; exact HR.out, HU.out⟩)
    clear E E2 h hk
    generalize (rdNum k s).1 = N at *
    go_wp2_with fail
    go_ret
    exact PO.out

theorem con_any {B0 : Nat} {w : World} {p : Nat} {s : Rd} (h : RdAt B0 w p s) :
    Calls Tryd.prog 52 #[.pointer (some ⟨p, 0, none⟩)] w (NumPost B0 w p (.int .i64 (rdCon s).1) (rdCon s).2) := by
  have E := Lib.hid (show rdCon s = (if (rdNum 1 s).1 = 255 then -1 else (rdNum 1 s).1, (rdNum 1 s).2) from rfl)
  go_enter Tryd.func52, Tryd.ntmps52
  go_wp2_with fail
  refine (rnum_any h 1 (by unfold maxLen; omega)).mono ?_
  rintro e w1 ⟨rfl, hr, hu⟩
  have PO := Lib.hid (show ∀ n, n = (rdCon s).1 → NumPost B0 w p (.int .i64 (rdCon s).1) (rdCon s).2 (.returned (.int .i64 n)) w1 from fun n hn => ⟨by rw [hn], by rw [E.out]; exact hr, hu⟩)
  clear hr hu h
  by_cases h1 : (rdNum 1 s).1 = 255
  · have P2 := Lib.hid (PO.out (-1) (by rw [E.out]; exact (if_pos h1).symm))
    clear PO E
    generalize (rdNum 1 s).1 = N at *
    subst h1
    go_wp2_with fail
    go_ret
    exact P2.out
  · have P2 := Lib.hid (PO.out (rdNum 1 s).1 (by rw [E.out]; exact (if_neg h1).symm))
    clear PO E
    generalize (rdNum 1 s).1 = N at *
    have h2 : (N == 255) = false := by rw [beq_eq_false_iff_ne]; exact h1
    go_wp2_with fail
    go_ret
    exact P2.out

theorem conv_bytes {B0 : Nat} {w : World} {v : Value} {l : List Int} (h : bySl B0 w v l) : (convert 27 9 v).run Tryd.prog w = .ok (.string (byI l)) w := by
  obtain ⟨a, c, rfl, -, -, h⟩ := h
  rcases h with h0 | ⟨b, o, rfl, -, -, hc⟩
  · obtain rfl := List.length_eq_zero_iff.1 h0
    cases a with
    | none => exact run_convert_bytes_nil w _ _ under_bytes (by kernel_rfl) _ _ _ under_str
    | some a => exact run_convert_bytes_back w _ _ _ a c [] under_bytes (by kernel_rfl) under_str (fun j hj => by simp at hj)
  · exact run_convert_bytes_arg w _ _ under_bytes (by kernel_rfl) b o l.length c l rfl (fun i hi => by rw [hc i _ (List.getElem?_eq_getElem hi), List.getD_eq_getElem?_getD, List.getElem?_eq_getElem hi]; rfl) _ under_str

theorem rdNum1_bd {s : Rd} (h : ∀ z ∈ s.1, 0 ≤ z ∧ z < 256) : 0 ≤ (rdNum 1 s).1 ∧ (rdNum 1 s).1 < 256 := by
  unfold rdNum
  split
  · rename_i hl
    match hs : s.1, hl with
    | z :: r, _ =>
      have hz := h z (by rw [hs]; exact List.mem_cons_self ..)
      have e : numOf ((z :: r).take 1) = z := by
        show IntKind.i64.wrap (0 * 256 + z) = z
        rw [wrap_i64_eq]; omega
      simp only [e]
      exact hz
  · simp
theorem rdNum2_bd {s : Rd} (h : ∀ z ∈ s.1, 0 ≤ z ∧ z < 256) : 0 ≤ (rdNum 2 s).1 ∧ (rdNum 2 s).1 < 65536 := by
  unfold rdNum
  split
  · rename_i hl
    match hs : s.1, hl with
    | z :: y :: r, _ =>
      have hz := h z (by rw [hs]; simp)
      have hy := h y (by rw [hs]; simp)
      have e : numOf ((z :: y :: r).take 2) = z * 256 + y := by
        show IntKind.i64.wrap (IntKind.i64.wrap (0 * 256 + z) * 256 + y) = _
        rw [wrap_i64_eq, wrap_i64_eq]; omega
      simp only [e]
      omega
  · simp

theorem text_any {B0 : Nat} {w : World} {p : Nat} {s : Rd} (h : RdAt B0 w p s) :
    Calls Tryd.prog 42 #[.pointer (some ⟨p, 0, none⟩)] w (NumPost B0 w p (.string (rdStr s).1) (rdStr s).2) := by
  have E := Lib.hid (show rdStr s = (byI (rdTake (rdNum 1 s).1.toNat (rdNum 1 s).2).1, (rdTake (rdNum 1 s).1.toNat (rdNum 1 s).2).2) from rfl)
  go_enter Tryd.func42, Tryd.ntmps42
  go_wp2_with fail
  refine (rnum_any h 1 (by unfold maxLen; omega)).mono ?_
  rintro e w1 ⟨rfl, hr, hu⟩
  have hb := rdNum1_bd h.bd
  obtain ⟨k, hk⟩ := Int.eq_ofNat_of_zero_le hb.1
  have hkN : (rdNum 1 s).1.toNat = k := by omega
  have E2 := E.out
  rw [hkN] at E2
  have EE := Lib.hid E2
  rw [hk]
  clear E E2 hk hkN hb
  go_wp2_with fail
  refine (take_any hr k).mono ?_
  rintro e w2 ⟨v, rfl, hv, hr2, hu2⟩
  have PO := Lib.hid (show NumPost B0 w p (.string (rdStr s).1) (rdStr s).2 (.returned (.string (byI (rdTake k (rdNum 1 s).2).1))) w2 from ⟨by rw [EE.out], by rw [EE.out]; exact hr2, hu.trans hu2 fun _ _ h => h⟩)
  have cv := conv_bytes hv
  obtain ⟨a, c, rfl, -⟩ := hv
  clear hr hu hr2 hu2 EE
  go_wp2_with fail
  go_ret
  exact PO.out
end Go.Proofs.YtabdbciebhmflaaDoor
