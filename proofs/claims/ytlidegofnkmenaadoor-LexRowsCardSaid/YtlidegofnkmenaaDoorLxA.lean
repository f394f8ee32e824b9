/-
  Package lex: the small functions over bytes; where blanks and notes end.
  Conditions: texts of no more than 100,000 bytes, where it says so.
-/
import Derived.Test.YtlidegofnkmenaaDoorLx
namespace Go.Proofs.YtlidegofnkmenaaDoor
open Go.ChangeShapes Go.WideShapes Go.ChangeAt Go.RowKit
set_option linter.unusedVariables false
set_option linter.unusedSimpArgs false
set_option maxRecDepth 100000

theorem isGreat_any (n : Nat) (w : World) : Calls Tryd.prog 40 #[.int .u8 n] w fun e w' => e = .returned (.bool (gtN n)) ∧ w = w' := by
  by_cases c1 : 65 ≤ n
  · have i1 : (65 : Int) ≤ n := by omega
    go_enter Tryd.func40, Tryd.ntmps40
    go_wp2
    go_ret
    exact ⟨ret_bool (by unfold gtN; by_cases h : n ≤ 90 <;> simp [h, c1] <;> omega), rfl⟩
  · have i1 : (n : Int) < 65 := by omega
    go_enter Tryd.func40, Tryd.ntmps40
    go_wp2
    go_ret
    exact ⟨ret_bool (by unfold gtN; simp [c1]), rfl⟩
theorem isDigit_any (n : Nat) (w : World) : Calls Tryd.prog 35 #[.int .u8 n] w fun e w' => e = .returned (.bool (dgN n)) ∧ w = w' := by
  by_cases c1 : 48 ≤ n
  · have i1 : (48 : Int) ≤ n := by omega
    go_enter Tryd.func35, Tryd.ntmps35
    go_wp2
    go_ret
    exact ⟨ret_bool (by unfold dgN; by_cases h : n ≤ 57 <;> simp [h, c1] <;> omega), rfl⟩
  · have i1 : (n : Int) < 48 := by omega
    go_enter Tryd.func35, Tryd.ntmps35
    go_wp2
    go_ret
    exact ⟨ret_bool (by unfold dgN; simp [c1]), rfl⟩
theorem isPlain_any (n : Nat) (w : World) : Calls Tryd.prog 29 #[.int .u8 n] w fun e w' => e = .returned (.bool (plN n)) ∧ w = w' := by
  by_cases c1 : 32 ≤ n
  · have i1 : (32 : Int) ≤ n := by omega
    go_enter Tryd.func29, Tryd.ntmps29
    go_wp2
    go_ret
    exact ⟨ret_bool (by unfold plN; by_cases h : n ≤ 126 <;> simp [h, c1] <;> omega), rfl⟩
  · have i1 : (n : Int) < 32 := by omega
    go_enter Tryd.func29, Tryd.ntmps29
    go_wp2
    go_ret
    exact ⟨ret_bool (by unfold plN; simp [c1]), rfl⟩
theorem isGreat_is {n : Nat} {b : Bool} (h : gtN n = b) (w : World) : Calls Tryd.prog 40 #[.int .u8 n] w fun e w' => e = .returned (.bool b) ∧ w = w' := by subst h; exact isGreat_any n w
theorem isDigit_is {n : Nat} {b : Bool} (h : dgN n = b) (w : World) : Calls Tryd.prog 35 #[.int .u8 n] w fun e w' => e = .returned (.bool b) ∧ w = w' := by subst h; exact isDigit_any n w
theorem isPlain_is {n : Nat} {b : Bool} (h : plN n = b) (w : World) : Calls Tryd.prog 29 #[.int .u8 n] w fun e w' => e = .returned (.bool b) ∧ w = w' := by subst h; exact isPlain_any n w
theorem isLetter_any (n : Nat) (w : World) : Calls Tryd.prog 33 #[.int .u8 n] w fun e w' => e = .returned (.bool (ltN n)) ∧ w = w' := by
  obtain ⟨g, hg⟩ : ∃ g, gtN n = g := ⟨_, rfl⟩
  have HG := Lib.hid hg
  clear hg
  have E : Hid (ltN n = (decide (97 ≤ n ∧ n ≤ 122) || (g || decide (n = 95)))) := Lib.hid (by rw [← HG.out]; rfl)
  have D : ∀ m : Nat, decide ((n : Int) = m) = decide (n = m) := fun m => by by_cases h : n = m <;> simp [h]; omega
  by_cases c1 : 97 ≤ n
  · have i1 : (97 : Int) ≤ n := by omega
    by_cases c2 : n ≤ 122
    · have i2 : (n : Int) ≤ 122 := by omega
      go_enter Tryd.func33, Tryd.ntmps33
      go_wp2_with (go_at_call 40; refine (isGreat_is HG.out _).mono ?_; rintro e w' ⟨rfl, rfl⟩)
      go_ret
      exact ⟨ret_bool (by rw [E.out]; simp [c1, c2]), rfl⟩
    · have i2 : (122 : Int) < n := by omega
      cases g
      · go_enter Tryd.func33, Tryd.ntmps33
        go_wp2_with (go_at_call 40; refine (isGreat_is HG.out _).mono ?_; rintro e w' ⟨rfl, rfl⟩)
        go_ret
        exact ⟨ret_bool (by rw [E.out]; have : ¬ n = 95 := by omega
                            have : ¬ (n : Int) = 95 := by omega
                            simp [*]), rfl⟩
      · go_enter Tryd.func33, Tryd.ntmps33
        go_wp2_with (go_at_call 40; refine (isGreat_is HG.out _).mono ?_; rintro e w' ⟨rfl, rfl⟩)
        go_ret
        exact ⟨ret_bool (by rw [E.out]; simp), rfl⟩
  · have i1 : (n : Int) < 97 := by omega
    cases g
    · go_enter Tryd.func33, Tryd.ntmps33
      go_wp2_with (go_at_call 40; refine (isGreat_is HG.out _).mono ?_; rintro e w' ⟨rfl, rfl⟩)
      go_ret
      exact ⟨ret_bool (by rw [E.out]; by_cases h : n = 95
                          · subst h; simp
                          · have : ¬ (n : Int) = 95 := by omega
                            simp [c1, h, this]), rfl⟩
    · go_enter Tryd.func33, Tryd.ntmps33
      go_wp2_with (go_at_call 40; refine (isGreat_is HG.out _).mono ?_; rintro e w' ⟨rfl, rfl⟩)
      go_ret
      exact ⟨ret_bool (by rw [E.out]; simp), rfl⟩
theorem isLetter_is {n : Nat} {b : Bool} (h : ltN n = b) (w : World) : Calls Tryd.prog 33 #[.int .u8 n] w fun e w' => e = .returned (.bool b) ∧ w = w' := by subst h; exact isLetter_any n w

/-! ## Notes and blanks -/
abbrev Ls (s : ByteArray) : List UInt8 := s.data.toList
theorem ls_len (s : ByteArray) : (Ls s).length = s.size := by rw [Lib.size_eq]
theorem get_byN (s : ByteArray) (k : Nat) (h : k < s.size) : s[k].toNat = byN (Ls s) k := by
  have h' : k < s.data.toList.length := by rw [← Lib.size_eq]; exact h
  unfold byN
  rw [List.getD_eq_getElem?_getD, List.getElem?_eq_getElem h']
  cases s with
  | mk d => simp; rfl
theorem ls_from (s : ByteArray) (k : Nat) : Ls (s.extract k s.size) = (Ls s).drop k := by
  rw [Ls, Lib.extract_data]
  exact List.take_of_length_le (by rw [List.length_drop, ← Lib.size_eq]; exact Nat.le_refl _)
theorem ls_to (s : ByteArray) (k : Nat) : Ls (s.extract 0 k) = (Ls s).take k := by
  rw [Ls, Lib.extract_data]; simp
theorem str_to (s : ByteArray) (k : Nat) : s.extract 0 k = ⟨((Ls s).take k).toArray⟩ := by
  rw [Lib.extract_eq]; simp
def noteP (l : List UInt8) : Nat := if 0 ≤ Lib.indexByte l 10 then (Lib.indexByte l 10).toNat else l.length
theorem noteP_cons {c : UInt8} {r : List UInt8} (h : c.toNat ≠ 10) : noteP (c :: r) = noteP r + 1 := by
  have hc : (c == 10) = false := by
    rw [beq_eq_false_iff_ne]
    intro e; rw [e] at h; exact h rfl
  have hg := Lib.indexByte_ge r 10
  unfold noteP
  rw [Lib.indexByte, hc]
  simp only [Bool.false_eq_true, if_false, List.length_cons]
  by_cases h1 : Lib.indexByte r 10 = -1
  · rw [h1]; simp
  · have hb : (Lib.indexByte r 10 == -1) = false := by rw [beq_eq_false_iff_ne]; exact h1
    rw [hb]
    simp only [Bool.false_eq_true, if_false]
    rw [if_pos (by omega), if_pos (by omega)]
    omega
theorem noteP_nl {c : UInt8} {r : List UInt8} (h : c.toNat = 10) : noteP (c :: r) = 0 := by
  have hc : c = 10 := UInt8.toNat_inj.1 (by rw [h]; rfl)
  subst hc
  unfold noteP
  rw [Lib.indexByte]
  simp
theorem noteP_le : ∀ l : List UInt8, noteP l ≤ l.length
  | [] => by simp [noteP, Lib.indexByte]
  | c :: r => by
    have := noteP_le r
    by_cases h : c.toNat = 10
    · rw [noteP_nl h]; omega
    · rw [noteP_cons h, List.length_cons]; omega
theorem skP_note : ∀ l : List UInt8, skP true l = noteP l + skP false (l.drop (noteP l))
  | [] => by simp [noteP, Lib.indexByte, skP]
  | c :: r => by
    by_cases h : c.toNat = 10
    · rw [noteP_nl h, List.drop_zero, skP, skP, if_pos h, if_pos (by unfold blN; rw [h]; rfl)]; omega
    · rw [noteP_cons h, List.drop_succ_cons, skP, if_neg h, skP_note r]; omega
theorem skP_hash {l : List UInt8} (h0 : l.length ≠ 0) (h : byN l 0 = 35) : skP false l = noteP l + skP false (l.drop (noteP l)) := by
  match l with
  | [] => exact absurd rfl h0
  | c :: r =>
    have h : c.toNat = 35 := h
    rw [noteP_cons (by omega), List.drop_succ_cons, skP, if_neg (by rw [h]; decide), if_pos h, skP_note r]; omega
theorem skP_blank {l : List UInt8} (h0 : l.length ≠ 0) (h : blN (byN l 0) = true) : skP false l = 1 + skP false (l.drop 1) := by
  match l with
  | [] => exact absurd rfl h0
  | c :: r =>
    have h : blN c.toNat = true := h
    rw [skP, if_pos h]; rfl
theorem skP_stop {l : List UInt8} (h : blN (byN l 0) = false) (h1 : byN l 0 ≠ 35) : skP false l = 0 := by
  match l with
  | [] => rfl
  | c :: r =>
    have h : blN c.toNat = false := h
    have h1 : c.toNat ≠ 35 := h1
    rw [skP, if_neg (by rw [h]; decide), if_neg h1]

theorem noteLength_any (s : ByteArray) (w : World) : Calls Tryd.prog 32 #[.string s] w fun e w' => e = .returned (.int .i64 (noteP (Ls s))) ∧ w = w' := by
  have HC := fun w => Any.strings_IndexByte Tryd.laysNm137 s 10 w
  have e10 : (10 : Int).toNat.toUInt8 = 10 := rfl
  rw [e10] at HC
  have hp : (noteP (Ls s) : Int) = if 0 ≤ Lib.indexByte (Ls s) 10 then Lib.indexByte (Ls s) 10 else (s.size : Int) := by
    unfold noteP
    split
    · omega
    · rw [ls_len]
  have HP := Lib.hid hp
  clear hp e10
  obtain ⟨x, hx⟩ : ∃ x, Lib.indexByte (Ls s) 10 = x := ⟨_, rfl⟩
  rw [hx] at HP HC
  clear hx
  go_enter Tryd.func32, Tryd.ntmps32
  go_wp2_with (go_at_call 39; refine (HC _).mono ?_; rintro e w' ⟨rfl, hw⟩; rw [hw])
  all_goals go_ret
  all_goals exact ⟨ret_int (by rw [HP.out]; simp [*] <;> omega), rfl⟩

theorem skipped_any (s : ByteArray) (hs : s.size ≤ 100000) (o : Nat) (ho : o ≤ s.size) (w : World) :
    Calls Tryd.prog 19 #[.string s, .int .i64 o] w fun e w' => e = .returned (.int .i64 ((o + skP false ((Ls s).drop o) : Nat) : Int)) ∧ w = w' := by
  go_enter Tryd.func19, Tryd.ntmps19
  go_wp2_with fail
  go_loop [1] (fun v => ∃ k : Nat, v = .int .i64 k ∧ k ≤ s.size ∧ Hid (o + skP false ((Ls s).drop o) = k + skP false ((Ls s).drop k))) (fun v => s.size - (intOf v).toNat)
  case atStart => exact ⟨o, rfl, ho, Lib.hid rfl⟩
  case round =>
    obtain ⟨k, rfl, hk, HK⟩ := hrel
    by_cases hlt : k < s.size
    · have hlt' : (k : Int) < s.size := by omega
      have hdl : ((Ls s).drop k).length = s.size - k := by rw [List.length_drop, ls_len]
      have hb0 : byN ((Ls s).drop k) 0 = byN (Ls s) k := by unfold byN; simp [List.getD_eq_getElem?_getD]
      obtain ⟨c, hc⟩ : ∃ c, byN (Ls s) k = c := ⟨_, rfl⟩
      have hg : s[k].toNat = c := by rw [get_byN s k hlt, hc]
      rw [hc] at hb0
      by_cases c1 : blN c = true
      · have HN : Hid (o + skP false ((Ls s).drop o) = (k + 1) + skP false ((Ls s).drop (k + 1))) := Lib.hid (by
          rw [HK.out, skP_blank (by rw [hdl]; omega) (by rw [hb0]; exact c1), List.drop_drop]; omega)
        have hcc : c = 32 ∨ c = 9 ∨ c = 10 := by unfold blN at c1; simpa using c1
        clear hdl hb0 HK hc c1
        rcases hcc with rfl | rfl | rfl
        all_goals
          go_wp2_with fail
          exact ⟨⟨k + 1, rfl, by omega, HN⟩, by simp [intOf]; omega⟩
      · have hcc : c ≠ 32 ∧ c ≠ 9 ∧ c ≠ 10 := by unfold blN at c1; simpa using c1
        by_cases c2 : c = 35
        · subst c2
          have hn := skP_hash (l := (Ls s).drop k) (by rw [hdl]; omega) hb0
          have hle := noteP_le ((Ls s).drop k)
          obtain ⟨m, hm⟩ : ∃ m, noteP ((Ls s).drop k) = m := ⟨_, rfl⟩
          have hm1 : 0 < m := by
            rw [← hm]
            cases hd : (Ls s).drop k with
            | nil => rw [hd] at hdl; simp at hdl; omega
            | cons a r => rw [noteP_cons (by rw [hd] at hb0; have : a.toNat = 35 := hb0; omega)]; omega
          rw [hm] at hn hle
          have HN : Hid (o + skP false ((Ls s).drop o) = (k + m) + skP false ((Ls s).drop (k + m))) := Lib.hid (by rw [HK.out, hn, List.drop_drop]; omega)
          have HC : ∀ w, Calls Tryd.prog 32 #[.string (s.extract k s.size)] w fun e w' => e = .returned (.int .i64 m) ∧ w = w' := fun w => by
            have := noteLength_any (s.extract k s.size) w
            rw [ls_from, hm] at this
            exact this
          have hmk : m + k ≤ s.size := by omega
          clear hdl hb0 HK hc c1 hn hle hm hcc
          go_wp2_with (go_at_call 32; refine (HC _).mono ?_; rintro e w' ⟨rfl, rfl⟩)
          exact ⟨⟨k + m, by go_num, by omega, HN⟩, by simp [intOf]; omega⟩
        · have HZ : Hid (o + skP false ((Ls s).drop o) = k) := Lib.hid (by rw [HK.out, skP_stop (by rw [hb0]; simpa using c1) (by rw [hb0]; exact c2)]; rfl)
          have i1 : ¬ (c : Int) = 32 := by omega
          have i2 : ¬ (c : Int) = 9 := by omega
          have i3 : ¬ (c : Int) = 10 := by omega
          have i4 : ¬ (c : Int) = 35 := by omega
          clear hdl hb0 HK hc c1 hcc c2
          go_wp2_with fail
          go_ret
          exact ⟨ret_int (by have := HZ.out; omega), rfl⟩
    · have hkk : k = s.size := by omega
      subst hkk
      have HZ : Hid (o + skP false ((Ls s).drop o) = s.size) := Lib.hid (by rw [HK.out, List.drop_eq_nil_of_le (by rw [ls_len]; exact Nat.le_refl _)]; rfl)
      clear HK
      go_wp2_with fail
      go_ret
      exact ⟨ret_int (by have := HZ.out; omega), rfl⟩
end Go.Proofs.YtlidegofnkmenaaDoor
