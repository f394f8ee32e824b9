/-
  For every text and number the law LexBack returns true, and its arguments read as they did. Condition: the library's tables and errors and package lex's tables of words and signs read when the call begins as the program's text lays them (the card ties them).
-/
import Derived.Test.YtlidegofnkmenaaDoorLxT
import Derived.Test.YtlidegofnkmenaaDoorLxQ
import Derived.Test.YtlidegofnkmenaaDoorTie
import Derived.Test.YtlidegofnkmenaaDoorCards
import Derived.SevenTiedAt
import Derived.LaidMore
import Derived.Stop.Joined
import Derived.Deep.Cut
import Derived.Deep.DeepCutAuto
namespace Go.Proofs.YtlidegofnkmenaaDoor.lexBack
open Go.ChangeShapes Go.WideShapes Go.ChangeAt Go.RowKit
set_option linter.unusedVariables false
set_option linter.unusedSimpArgs false
set_option linter.unusedVariables false
set_option maxRecDepth 100000

theorem own : ownKnob Tryd.prog.godebug = none := by kernel_rfl
theorem laidOut : laidOutB Tryd.prog = true := by kernel_rfl

set_option maxHeartbeats 8000000
theorem ls_app (a b : ByteArray) : Ls (a ++ b) = Ls a ++ Ls b := by simp [Ls]
/-- What the blanks and notes ahead and behind are. -/
structure Bl (b : ByteArray) (n : Nat) : Prop where
  whole : Whole (Ls b)
  sep : ∀ c, (Ls b)[0]? = some c → sepN c.toNat = true
  len : b.size ≤ n
theorem Bl.nil : Bl ⟨#[]⟩ 0 := ⟨whole_nil, fun c hc => by simp [Ls] at hc, Nat.le_refl _⟩
theorem size_app (a b : ByteArray) : (a ++ b).size = a.size + b.size := by rw [← ls_len, ls_app, List.length_append, ls_len, ls_len]
theorem Bl.app {a b : ByteArray} {n m : Nat} (ha : Bl a n) (hb : Bl b m) : Bl (a ++ b) (n + m) := by
  refine ⟨by rw [ls_app]; exact whole_app ha.whole hb.whole, fun c hc => ?_, by rw [size_app]; have := ha.len; have := hb.len; omega⟩
  rw [ls_app] at hc
  cases hl : Ls a with
  | nil => rw [hl] at hc; exact hb.sep c hc
  | cons d r => rw [hl] at hc; exact ha.sep c (by rw [hl]; exact hc)
theorem Bl.one (k : Nat) (hk : k < 3) : Bl ((⟨#[32, 9, 10]⟩ : ByteArray).extract k (k + 1)) 1 := by
  have h : ∀ k, k < 3 → ∃ d : UInt8, Ls ((⟨#[32, 9, 10]⟩ : ByteArray).extract k (k + 1)) = [d] ∧ blN d.toNat = true ∧ sepN d.toNat = true := fun k hk => by
    rw [Ls, Lib.extract_data]
    match k, hk with
    | 0, _ => exact ⟨32, rfl, by decide, by decide⟩
    | 1, _ => exact ⟨9, rfl, by decide, by decide⟩
    | 2, _ => exact ⟨10, rfl, by decide, by decide⟩
  obtain ⟨d, e, hb, hs⟩ := h k hk
  refine ⟨by rw [e]; exact whole_blank whole_nil hb, fun c hc => ?_, by rw [← ls_len, e]; exact Nat.le_refl _⟩
  rw [e] at hc
  cases hc
  exact hs
theorem Bl.note : Bl ⟨#[35, 32, 34, 120, 10]⟩ 5 := ⟨whole_note, fun c hc => by cases hc; decide, Nat.le_refl _⟩
theorem Bl.space : Bl ⟨#[32]⟩ 1 := ⟨whole_blank whole_nil (by decide), fun c hc => by cases hc; decide, Nat.le_refl _⟩
theorem slice_bl (r : Nat) (hr : r < 3) (w : World) : (Instr.slice 9 (.string ⟨#[32, 9, 10]⟩) (some (.int .i64 r)) (some (.int .i64 ((r : Int) + 1))) none).run Tryd.prog w = .ok (.string ((⟨#[32, 9, 10]⟩ : ByteArray).extract r (r + 1))) w := by
  obtain rfl | rfl | rfl : r = 0 ∨ r = 1 ∨ r = 2 := by omega
  all_goals kernel_rfl
/-- A text's token is read as that text. -/
theorem txP_quote : ∀ (l : List UInt8) (k f : Nat) (x : List UInt8), l.all qOk = true → k + l.length ≤ 60 → (l.flatMap qB).length + 1 ≤ f → txP f k (l.flatMap qB ++ 34 :: x) = some (l, (l.flatMap qB).length + 1)
  | [], k, f, x, _, _, hf => by
    obtain ⟨f, rfl⟩ : ∃ g, f = g + 1 := ⟨f - 1, by omega⟩
    rw [txP_eq, if_neg (by simp), if_pos (by rfl)]
    rfl
  | c :: r, k, f, x, ho, hk, hf => by
    rw [List.all_cons, Bool.and_eq_true] at ho
    rw [List.length_cons] at hk
    rw [List.flatMap_cons, List.length_append] at hf
    obtain ⟨f, rfl⟩ : ∃ g, f = g + 1 := ⟨f - 1, by omega⟩
    have hq0 : 0 < (qB c).length := by unfold qB; split <;> (try split) <;> simp
    have ih := txP_quote r (k + 1) f x ho.2 (by omega) (by omega)
    rw [List.flatMap_cons, List.append_assoc]
    have key : ∀ z, byN (qB c ++ z) 0 ≠ 34 ∧ tdP (qB c ++ z) = some (c, (qB c).length) := by
      intro z
      unfold qB
      by_cases h1 : c.toNat = 10
      · rw [if_pos h1]
        refine ⟨by simp only [List.cons_append]; show (92 : UInt8).toNat ≠ 34; decide, ?_⟩
        unfold tdP
        rw [if_pos (by rfl), if_neg (by simp), if_pos (by rfl), show c = 10 from UInt8.toNat_inj.1 (by rw [h1]; rfl)]
        rfl
      · rw [if_neg h1]
        by_cases h2 : c.toNat = 34 ∨ c.toNat = 92
        · rw [if_pos h2]
          refine ⟨by simp only [List.cons_append]; show (92 : UInt8).toNat ≠ 34; decide, ?_⟩
          have e1 : byN ([92, c] ++ z) 1 = c.toNat := rfl
          unfold tdP
          rw [if_pos (by rfl), if_neg (by simp), e1, if_neg (by omega), if_pos h2]
          rfl
        · rw [if_neg h2]
          have e0 : byN ([c] ++ z) 0 = c.toNat := rfl
          have hp : plN c.toNat = true := by have := ho.1; unfold qOk at this; rw [decide_eq_false h1, Bool.false_or] at this; exact this
          refine ⟨by rw [e0]; omega, ?_⟩
          unfold tdP
          rw [e0, if_neg (by omega), if_pos hp]
          rfl
    rw [txP_mk (by simp) (key _).1 (key _).2 (by omega) (t := r) (n := (r.flatMap qB).length + 1) (by rw [List.drop_left]; exact ih)]
    rw [List.length_append]
    simp; omega
theorem first_quote {l : List UInt8} (h : quO l = true) : firstP (quP l) = some (4, l, (quP l).length) ∧ byN (quP l) 0 = 34 := by
  have h0 := (quP_ends h).1
  refine ⟨?_, h0⟩
  have hl := quP_len h
  have hq := quP_yes h
  unfold quO at h
  simp only [Bool.and_eq_true, decide_eq_true_eq] at h
  rw [firstP_text (by omega) h0, hq, List.drop_succ_cons, List.drop_zero]
  rw [txP_quote l 0 _ [] h.2 (by omega) (by simp)]
  simp
theorem quote_toks {l : List UInt8} {b : ByteArray} {n : Nat} (h : quO l = true) (hb : Bl b n) : toks 0 (Ls b ++ quP l ++ Ls b) = ([(4, l, b.size)], none) := by
  obtain ⟨hf, h0⟩ := first_quote h
  have := toks_one hb.whole hb.whole hb.sep hf (by rw [h0]; decide) (by rw [h0]; decide)
  rw [ls_len] at this
  exact this
theorem quP_small {l : List UInt8} (h : quO l = true) : (quP l).length ≤ 122 := by
  rw [quP_len h]
  have := spN_le l
  unfold quO at h
  simp only [Bool.and_eq_true, decide_eq_true_eq] at h
  omega
theorem word_sk {l : List UInt8} (h : ltN (byN l 0) = true) : blN (byN l 0) = false ∧ byN l 0 ≠ 35 := by
  refine ⟨?_, fun e => by rw [e] at h; exact absurd h (by decide)⟩
  cases hb : blN (byN l 0)
  · rfl
  · have : byN l 0 = 32 ∨ byN l 0 = 9 ∨ byN l 0 = 10 := by unfold blN at hb; simpa using hb
    rcases this with e | e | e <;> rw [e] at h <;> exact absurd h (by decide)
theorem word_back {l : List UInt8} {k : Int} {b : ByteArray} {n : Nat} (hk : k = 1 ∨ k = 2) (h : isAll l k = true) (hb : Bl b n) : toks 0 (Ls b ++ l ++ Ls (⟨#[32]⟩ ++ b)) = ([(k, l, b.size)], none) := by
  obtain ⟨h1, h2, h3, h4, h5, h6⟩ := isAll_is hk h
  obtain ⟨s1, s2⟩ := word_sk h2
  have hs := Bl.app Bl.space hb
  have := toks_one (a := Ls b) (b := Ls (⟨#[32]⟩ ++ b)) hb.whole hs.whole hs.sep (word_first h1 h2 h4 h5) s1 s2
  rw [ls_len, h6] at this
  exact this
theorem isAll_two {l : List UInt8} {k : Int} (hk : k = 1 ∨ k = 2) (h : isAll l k = true) : isAll l 1 = decide (k = 1) ∧ isAll l 2 = decide (k = 2) := by
  obtain ⟨h1, h2, h3, h4, h5, h6⟩ := isAll_is hk h
  rw [isAll_word h1 h2 h4 h5, isAll_word h1 h2 h4 h5, h6]
  exact ⟨rfl, rfl⟩
theorem isAll_small {l : List UInt8} {k : Int} (hk : k = 1 ∨ k = 2) (h : isAll l k = true) : l.length ≤ 12 := (isAll_is hk h).2.2.2.2.1

theorem tok_one {s z : ByteArray} {kd : Int} {A : Nat} (hs : s.size ≤ 100000) (hE : tkE (Ls s) = 0) (hA : tkA (Ls s) = 0) (hL : tkL (Ls s) = [(kd, Ls z, A)]) (w : World) (T : LxTab w) :
    Calls Tryd.prog 10 #[.string s] w fun e w' => ∃ g c, e = .returned (.tuple #[.slice (some ⟨g, 0, none⟩) 1 c, .agg #[.int .i64 0, .int .i64 0]]) ∧ 1 ≤ c ∧ g < w'.heap.size ∧ w'.cell? ⟨g, 0, none⟩ = some (.int .i64 kd) ∧ w'.cell? ⟨g, 1, none⟩ = some (.string z) ∧ w'.cell? ⟨g, 2, none⟩ = some (.int .i64 A) ∧ Below w.heap.size w w' := by
  refine (tokens_is (D := [(kd, Ls z, A)]) (n := 1) hs hE hA hL rfl w T).mono ?_
  rintro e w' ⟨a, c, rfl, ho, hb⟩
  obtain ⟨g, rfl, -, hg1, hn1, hcell⟩ := tok_cells ho (by decide)
  exact ⟨g, c, rfl, hn1, hg1, hcell 0 _ rfl, hcell 1 _ rfl, hcell 2 _ rfl, hb⟩
theorem walk (s : ByteArray) (a1 : Int) (w0 : s.size ≤ maxLen) (w1 : (Lit.int .u8 a1).wf = true) (w : World) (T : LxTab w) :
    Calls Tryd.prog 4 #[.string s, .int .u8 a1] w fun e w' => e = .returned (.bool true) ∧ Below w.heap.size w w' := by
  have LL : Hid (Lw w w) := Lib.hid ⟨T, Below.refl _ _⟩
  unfold maxLen at w0
  obtain ⟨p1, p2⟩ := bounds_u8 w1
  clear w1
  by_cases hbig : 200 < s.size
  · have i0 : (200 : Int) < s.size := by omega
    clear hbig T
    go_enter Tryd.func4, Tryd.ntmps4
    go_wp2_with (go_at_call 9; refine (wakes_any _ LL.out.tab).mono ?_; rintro e wn ⟨rfl, hb⟩; replace LL := Lib.hid (LL.out.on hb); clear hb)
    go_ret
    exact ⟨rfl, LL.out.bel⟩
  have i0 : (s.size : Int) ≤ 200 := by omega
  have hs1 : s.size ≤ 100000 := by omega
  clear hbig T
  obtain ⟨m, hm⟩ : ∃ m : Nat, a1 % 9 = m := ⟨(a1 % 9).toNat, by omega⟩
  have hm9 : m < 9 := by omega
  have hm2 : a1.tmod 9 = m := by rw [Int.tmod_eq_emod_of_nonneg p1]; exact hm
  have TE := run_tk_eq
  go_enter Tryd.func4, Tryd.ntmps4
  go_wp2_with fail
  go_loop [5, 6] (fun vb vi => ∃ (k : Nat) (b : ByteArray), vi = .int .i64 k ∧ k ≤ m ∧ vb = .string b ∧ Hid (Bl b k)) (fun _ vi => m - (intOf vi).toNat)
  case atStart => exact ⟨0, ⟨#[]⟩, rfl, by omega, rfl, Lib.hid Bl.nil⟩
  obtain ⟨k, b, rfl, hk, rfl, HB⟩ := hrel
  by_cases hlt : k < m
  · have i1 : (k : Int) < m := by omega
    obtain ⟨r, hr⟩ : ∃ r : Nat, k % 3 = r := ⟨_, rfl⟩
    have hr3 : r < 3 := by omega
    have hr1 : (k : Int) % 3 = r := by omega
    have hr2 : (k : Int).tmod 3 = r := by rw [Int.tmod_eq_emod_of_nonneg (by omega)]; exact hr1
    have HN := Lib.hid (HB.out.app (Bl.one r hr3))
    have hy1 := (Bl.one r hr3).len
    have i2 : (r : Int) + 1 ≤ 3 := by omega
    obtain ⟨y, hy⟩ : ∃ y : ByteArray, (⟨#[32, 9, 10]⟩ : ByteArray).extract r (r + 1) = y := ⟨_, rfl⟩
    rw [hy] at HN hy1
    have hbs := HB.out.len
    have i9 : b.size + y.size ≤ 9223372036854775807 := by omega
    have hsl := slice_bl r hr3
    rw [hy] at hsl
    clear HB hr hy
    go_wp2_with fail
    exact ⟨⟨k + 1, b ++ y, by go_num, by omega, rfl, HN⟩, by simp [intOf]; omega⟩
  obtain rfl : k = m := by omega
  have i1 : ¬ (k : Int) < k := by omega
  have i9 : b.size + (⟨#[35, 32, 34, 120, 10]⟩ : ByteArray).size ≤ 9223372036854775807 := by have := HB.out.len; have : (⟨#[35, 32, 34, 120, 10]⟩ : ByteArray).size = 5 := rfl; omega
  go_upto_if 35 with fail
  go_cut [5] from 14 (fun v5 wx => ∃ b2, v5 = .string b2 ∧ Hid (Bl b2 14) ∧ wx = w)
  case first =>
    have HN1 := Lib.hid (show Bl (b ++ ⟨#[35, 32, 34, 120, 10]⟩) 14 from ⟨(HB.out.app Bl.note).whole, (HB.out.app Bl.note).sep, by have := (HB.out.app Bl.note).len; omega⟩)
    have HN2 := Lib.hid (show Bl b 14 from ⟨HB.out.whole, HB.out.sep, by have := HB.out.len; omega⟩)
    clear HB
    go_wp2_with fail
    all_goals go_meet
    all_goals first | exact ⟨_, rfl, HN1, rfl⟩ | exact ⟨_, rfl, HN2, rfl⟩
  case rest =>
  obtain ⟨b2, rfl, BB, hw⟩ := hcut
  replace hw := hw.symm
  subst hw
  clear i9 HB hm hm2
  obtain ⟨q, hq⟩ : ∃ q : ByteArray, Ls q = quP (Ls s) := ⟨⟨(quP (Ls s)).toArray⟩, ls_mk _⟩
  obtain ⟨ok, hok⟩ : ∃ ok, quO (Ls s) = ok := ⟨_, rfl⟩
  have HQ := fun w => quote_is (s := s) (b := q) (by omega) hq.symm hok w
  have HO := Lib.hid hok
  have HL := Lib.hid hq
  clear hok hq
  have hbl := BB.out.len
  go_upto_if 43 with (go_at_call 12; refine (HQ _).mono ?_; rintro e wn ⟨rfl, hb⟩; replace LL := Lib.hid (LL.out.on hb); clear hb)
  go_cut [8] from 14 (fun v8 wx => v8 = .bool ok ∧ Hid (Lw w wx))
  case first =>
    cases ok
    · go_wp2_with fail
      go_meet
      exact ⟨rfl, LL⟩
    · have hqt := quote_toks HO.out BB.out
      have hqs := quP_small HO.out
      rw [← HL.out, ls_len] at hqs
      have hlen : Ls (b2 ++ q ++ b2) = Ls b2 ++ quP (Ls s) ++ Ls b2 := by rw [ls_app, ls_app, HL.out]
      rw [← hlen] at hqt
      obtain ⟨tE, tA, tD⟩ := tk_good (by rw [ls_len, size_app, size_app]; omega) hqt
      have HTK := fun W T => tok_one (s := b2 ++ q ++ b2) (z := s) (by rw [size_app, size_app]; omega) tE tA tD W T
      have j1 : b2.size + q.size ≤ 9223372036854775807 := by omega
      have j2 : b2.size + q.size + b2.size ≤ 9223372036854775807 := by omega
      have j3 : (b2 ++ q).size + b2.size ≤ 9223372036854775807 := by rw [size_app]; omega
      clear hqt hqs hlen tE tA tD HQ
      go_wp2_with (go_at_call 10; refine (HTK _ LL.out.tab).mono ?_; rintro e wn ⟨g, c, rfl, hn1, hg1, x0, x1, x2, hb⟩; replace LL := Lib.hid ((LL.out.on hb).alloc (.cells #[.int .i64 0, .int .i64 0] 26)); clear hb)
      go_meet
      exact ⟨rfl, LL⟩
  case rest =>
  obtain ⟨rfl, LX⟩ := hcut
  replace LL := LX
  clear LX HQ HO HL
  have hcs : isAll (Ls s) 1 = true ∨ isAll (Ls s) 2 = true ∨ isAll (Ls s) 1 = false ∧ isAll (Ls s) 2 = false := by
    cases isAll (Ls s) 1 <;> cases isAll (Ls s) 2 <;> simp
  have j1 : b2.size + s.size ≤ 9223372036854775807 := by omega
  have j2 : b2.size + s.size + 1 ≤ 9223372036854775807 := by omega
  have j3 : b2.size + s.size + 1 + b2.size ≤ 9223372036854775807 := by omega
  rcases hcs with hN | hC | ⟨hN, hC⟩
  · have hsm := isAll_small (k := 1) (.inl rfl) hN
    obtain ⟨hn', hc'⟩ := isAll_two (k := 1) (.inl rfl) hN
    have HN : Hid (isAll (Ls s) 1 = true) := Lib.hid hn'
    have HC : Hid (isAll (Ls s) 2 = false) := Lib.hid hc'
    have hw := word_back (k := 1) (b := b2) (n := 14) (.inl rfl) hN BB.out
    have hlen : (Ls (b2 ++ s ++ ⟨#[32]⟩ ++ b2)) = Ls b2 ++ Ls s ++ Ls (⟨#[32]⟩ ++ b2) := by rw [ls_app, ls_app, ls_app, ls_app, List.append_assoc]
    have hbl := BB.out.len
    rw [ls_len] at hsm
    have hsz : (Ls (b2 ++ s ++ ⟨#[32]⟩ ++ b2)).length ≤ 2000 := by
      rw [ls_len, size_app, size_app, size_app]
      have : (⟨#[32]⟩ : ByteArray).size = 1 := rfl
      omega
    rw [← hlen] at hw
    obtain ⟨tE, tA, tD⟩ := tk_good hsz hw
    have HTK := fun W T => tok_one (s := b2 ++ s ++ ⟨#[32]⟩ ++ b2) (z := s) (by rw [← ls_len]; omega) tE tA tD W T
    clear hn' hc' hw hlen hbl hsz tE tA tD hsm
    go_upto_region 16 with (first | (go_at_call 15; refine (isName_is (by omega) HN.out _ LL.out.tab).mono ?_; rintro e wn ⟨rfl, hb⟩; replace LL := Lib.hid (LL.out.on hb); clear hb) | (go_at_call 17; refine (isCon_is (by omega) HC.out _ LL.out.tab).mono ?_; rintro e wn ⟨rfl, hb⟩; replace LL := Lib.hid (LL.out.on hb); clear hb))
    go_wp2_with (first | (go_at_call 9; refine (wakes_any _ LL.out.tab).mono ?_; rintro e wn ⟨rfl, hb⟩; replace LL := Lib.hid (LL.out.on hb); clear hb) | (go_at_call 15; refine (isName_is (by omega) HN.out _ LL.out.tab).mono ?_; rintro e wn ⟨rfl, hb⟩; replace RF := Lib.hid (RF.out.below hb RF.out.lt); replace X0 := Lib.hid ((hb.cell (p := ⟨g, 0, none⟩) G1.out).trans X0.out); replace X1 := Lib.hid ((hb.cell (p := ⟨g, 1, none⟩) G1.out).trans X1.out); replace X2 := Lib.hid ((hb.cell (p := ⟨g, 2, none⟩) G1.out).trans X2.out); replace G1 := Lib.hid (Nat.lt_of_lt_of_le G1.out hb.size); have e0 := RF.out.cell 0; have e1 := RF.out.cell 1; simp only [List.getElem?_cons_zero, List.getElem?_cons_succ] at e0 e1; have x0 := X0.out; have x1 := X1.out; have x2 := X2.out; replace LL := Lib.hid (LL.out.on hb); clear hb) | (go_at_call 17; refine (isCon_is (by omega) HC.out _ LL.out.tab).mono ?_; rintro e wn ⟨rfl, hb⟩; replace RF := Lib.hid (RF.out.below hb RF.out.lt); replace X0 := Lib.hid ((hb.cell (p := ⟨g, 0, none⟩) G1.out).trans X0.out); replace X1 := Lib.hid ((hb.cell (p := ⟨g, 1, none⟩) G1.out).trans X1.out); replace X2 := Lib.hid ((hb.cell (p := ⟨g, 2, none⟩) G1.out).trans X2.out); replace G1 := Lib.hid (Nat.lt_of_lt_of_le G1.out hb.size); have e0 := RF.out.cell 0; have e1 := RF.out.cell 1; simp only [List.getElem?_cons_zero, List.getElem?_cons_succ] at e0 e1; have x0 := X0.out; have x1 := X1.out; have x2 := X2.out; replace LL := Lib.hid (LL.out.on hb); clear hb) | (go_at_call 10; refine (HTK _ LL.out.tab).mono ?_; rintro e wn ⟨g, c, rfl, hn1, hg1, x0, x1, x2, hb⟩; have RF := Lib.hid (flt_made wn (.int .i64 0) (.int .i64 0)); have X0 := Lib.hid (cell_alloc hg1 x0 (.cells #[.int .i64 0, .int .i64 0] 26)); have X1 := Lib.hid (cell_alloc hg1 x1 (.cells #[.int .i64 0, .int .i64 0] 26)); have X2 := Lib.hid (cell_alloc hg1 x2 (.cells #[.int .i64 0, .int .i64 0] 26)); have G1 := Lib.hid (size_alloc hg1 (.cells #[.int .i64 0, .int .i64 0] 26)); clear x0 x1 x2; replace LL := Lib.hid ((LL.out.on hb).alloc (.cells #[.int .i64 0, .int .i64 0] 26)); clear hb))
    go_ret
    exact ⟨rfl, LL.out.bel⟩
  · have hsm := isAll_small (k := 2) (.inr rfl) hC
    obtain ⟨hn', hc'⟩ := isAll_two (k := 2) (.inr rfl) hC
    have HN : Hid (isAll (Ls s) 1 = false) := Lib.hid hn'
    have HC : Hid (isAll (Ls s) 2 = true) := Lib.hid hc'
    have hw := word_back (k := 2) (b := b2) (n := 14) (.inr rfl) hC BB.out
    have hlen : (Ls (b2 ++ s ++ ⟨#[32]⟩ ++ b2)) = Ls b2 ++ Ls s ++ Ls (⟨#[32]⟩ ++ b2) := by rw [ls_app, ls_app, ls_app, ls_app, List.append_assoc]
    have hbl := BB.out.len
    rw [ls_len] at hsm
    have hsz : (Ls (b2 ++ s ++ ⟨#[32]⟩ ++ b2)).length ≤ 2000 := by
      rw [ls_len, size_app, size_app, size_app]
      have : (⟨#[32]⟩ : ByteArray).size = 1 := rfl
      omega
    rw [← hlen] at hw
    obtain ⟨tE, tA, tD⟩ := tk_good hsz hw
    have HTK := fun W T => tok_one (s := b2 ++ s ++ ⟨#[32]⟩ ++ b2) (z := s) (by rw [← ls_len]; omega) tE tA tD W T
    clear hn' hc' hw hlen hbl hsz tE tA tD hsm
    go_upto_region 16 with (first | (go_at_call 15; refine (isName_is (by omega) HN.out _ LL.out.tab).mono ?_; rintro e wn ⟨rfl, hb⟩; replace LL := Lib.hid (LL.out.on hb); clear hb) | (go_at_call 17; refine (isCon_is (by omega) HC.out _ LL.out.tab).mono ?_; rintro e wn ⟨rfl, hb⟩; replace LL := Lib.hid (LL.out.on hb); clear hb))
    go_wp2_with (first | (go_at_call 9; refine (wakes_any _ LL.out.tab).mono ?_; rintro e wn ⟨rfl, hb⟩; replace LL := Lib.hid (LL.out.on hb); clear hb) | (go_at_call 15; refine (isName_is (by omega) HN.out _ LL.out.tab).mono ?_; rintro e wn ⟨rfl, hb⟩; replace RF := Lib.hid (RF.out.below hb RF.out.lt); replace X0 := Lib.hid ((hb.cell (p := ⟨g, 0, none⟩) G1.out).trans X0.out); replace X1 := Lib.hid ((hb.cell (p := ⟨g, 1, none⟩) G1.out).trans X1.out); replace X2 := Lib.hid ((hb.cell (p := ⟨g, 2, none⟩) G1.out).trans X2.out); replace G1 := Lib.hid (Nat.lt_of_lt_of_le G1.out hb.size); have e0 := RF.out.cell 0; have e1 := RF.out.cell 1; simp only [List.getElem?_cons_zero, List.getElem?_cons_succ] at e0 e1; have x0 := X0.out; have x1 := X1.out; have x2 := X2.out; replace LL := Lib.hid (LL.out.on hb); clear hb) | (go_at_call 17; refine (isCon_is (by omega) HC.out _ LL.out.tab).mono ?_; rintro e wn ⟨rfl, hb⟩; replace RF := Lib.hid (RF.out.below hb RF.out.lt); replace X0 := Lib.hid ((hb.cell (p := ⟨g, 0, none⟩) G1.out).trans X0.out); replace X1 := Lib.hid ((hb.cell (p := ⟨g, 1, none⟩) G1.out).trans X1.out); replace X2 := Lib.hid ((hb.cell (p := ⟨g, 2, none⟩) G1.out).trans X2.out); replace G1 := Lib.hid (Nat.lt_of_lt_of_le G1.out hb.size); have e0 := RF.out.cell 0; have e1 := RF.out.cell 1; simp only [List.getElem?_cons_zero, List.getElem?_cons_succ] at e0 e1; have x0 := X0.out; have x1 := X1.out; have x2 := X2.out; replace LL := Lib.hid (LL.out.on hb); clear hb) | (go_at_call 10; refine (HTK _ LL.out.tab).mono ?_; rintro e wn ⟨g, c, rfl, hn1, hg1, x0, x1, x2, hb⟩; have RF := Lib.hid (flt_made wn (.int .i64 0) (.int .i64 0)); have X0 := Lib.hid (cell_alloc hg1 x0 (.cells #[.int .i64 0, .int .i64 0] 26)); have X1 := Lib.hid (cell_alloc hg1 x1 (.cells #[.int .i64 0, .int .i64 0] 26)); have X2 := Lib.hid (cell_alloc hg1 x2 (.cells #[.int .i64 0, .int .i64 0] 26)); have G1 := Lib.hid (size_alloc hg1 (.cells #[.int .i64 0, .int .i64 0] 26)); clear x0 x1 x2; replace LL := Lib.hid ((LL.out.on hb).alloc (.cells #[.int .i64 0, .int .i64 0] 26)); clear hb))
    go_ret
    exact ⟨rfl, LL.out.bel⟩
  · have HN := Lib.hid hN
    have HC := Lib.hid hC
    clear hN hC
    go_wp2_with (first | (go_at_call 9; refine (wakes_any _ LL.out.tab).mono ?_; rintro e wn ⟨rfl, hb⟩; replace LL := Lib.hid (LL.out.on hb); clear hb) | (go_at_call 15; refine (isName_is (by omega) HN.out _ LL.out.tab).mono ?_; rintro e wn ⟨rfl, hb⟩; replace LL := Lib.hid (LL.out.on hb); clear hb) | (go_at_call 17; refine (isCon_is (by omega) HC.out _ LL.out.tab).mono ?_; rintro e wn ⟨rfl, hb⟩; replace LL := Lib.hid (LL.out.on hb); clear hb))
    go_ret
    exact ⟨rfl, LL.out.bel⟩

theorem contract (H : Type) (enc : TypeId × Value → H) (W : World) (base : Nat) (args : Array Value) (ds gs : List (DataW H)) (before : List MemPlace)
    (hval0 : ∀ (j : Nat) t v, Tryd.f4.params[j]? = some t → args[j]? = some v → Value.okWide Tryd.prog W .any base t v)
    (hW : DataW.Whole enc Tryd.prog Tryd.f4.params.toList Rows.lexBackSpec.vars false W args.toList ds gs before)
    (T : LxTab W) :
    Calls Tryd.prog 4 args W fun e W' => ∃ v, e = .returned v ∧ Rows.lexBackSpec.post enc Tryd.prog Tryd.f4 false true false false W args v W' := by
  have hW' := hW
  have hval := hval0
  obtain ⟨p, q, hA0, hV, rfl, hfz, hnd⟩ := hW
  have hA : DataW.TrodAll enc Tryd.prog W 0 (fun _ => true) true Tryd.f4.params.toList args.toList ds p := hA0
  rw [Tryd.params4] at hA hval
  obtain ⟨rfl, rfl⟩ := trodVars_none hV
  obtain ⟨v0, vs0, d0, ds0, p0, q0, hargs, rfl, rfl, h0, r0⟩ := trodAll_cons hA
  obtain ⟨v1, vs1, d1, ds1, p1, q1, rfl, rfl, rfl, h1, r1⟩ := trodAll_cons r0
  obtain ⟨rfl, rfl, rfl⟩ := trodAll_nil r1
  obtain rfl : args = #[v0, v1] := by cases args; simp_all
  obtain ⟨s0, rfl, rfl, rfl, w0⟩ := ChangeMaps.open_string Tryd.underlying9 (hval 0 9 v0 rfl rfl) h0
  obtain ⟨a1, rfl, rfl, rfl, w1⟩ := open_int Tryd.underlying5 (hval 1 5 v1 rfl rfl) h1
  refine (walk s0 a1 w0 w1 W T).mono fun e W' ⟨he, hb⟩ => ?_
  subst he
  exact ⟨_, rfl, law_post laidOut (by kernel_rfl) rfl (by kernel_rfl) Tryd.underlying4 hW' rfl rfl rfl hb⟩

theorem door_met (os : Os) (args : Array Value) : laidMetH Tryd.prog Rows.lexBackRow.laid ((World.doorLaid Tryd.prog 300 os).forCall (fun _ _ => 0) ⟨#[], args, []⟩).memory :=
  laidMetH_of_parts3 (fuel := 8) (laidMet_of_run' 8 (by kernel_rfl) (by kernel_rfl)) (by kernel_rfl) (by kernel_rfl)

set_option maxRecDepth 100000 in
theorem lifted (os : Os) (started : os.Started) (H : Type) (enc : TypeId × Value → H) :
    ReturnsInHanded {} Tryd.checked os 4 .any (fun w args => (Rows.lexBackSpec.pre enc Tryd.prog Tryd.f4 [] false w args ∧ laidMetH Tryd.prog Rows.lexBackRow.laid w) ∧ sizedMet enc Tryd.prog Tryd.f4 (OpenSpec.ofChange Rows.lexBackSpec) false w args)
      (Rows.lexBackSpec.post enc Tryd.prog Tryd.f4 false true false false) := by
  refine returnsInHanded_of_change_and (C := Tryd.checked) (X := fun w _ => laidMetH Tryd.prog Rows.lexBackRow.laid w) (fun _ _ _ hh h => h.of_heap hh) own started (by kernel_rfl) Tryd.func4
    (ChangeSpec.witness_shaped (enc := enc) (C := Tryd.checked) (os := os) (X := fun w _ => laidMetH Tryd.prog Rows.lexBackRow.laid w) false (World.doorLaid Tryd.prog 300 os) #[.string ⟨#[]⟩, .int .u8 0] 8 rfl (World.shaped_of_RefB (by kernel_rfl) (by kernel_rfl)) (by kernel_rfl) (by kernel_rfl) (by kernel_rfl) (door_met os _)) ?_
  intro W base args ds gs before hval hW _ hz hL _
  exact contract H enc W base args ds gs before hval hW (lxtab_of hL)

theorem over : Rows.lexBackRow.holds Tryd.pinned (OpenSpec.ofChange Rows.lexBackSpec) :=
  OpenClaim.holds_of_wide 4 Tryd.f4 rfl rfl rfl rfl rfl rfl rfl ⟨rfl, rfl, rfl, rfl, rfl⟩ rfl rfl rfl rfl rfl (by kernel_rfl) Tryd.func4 (by kernel_rfl)
    (of_decide_eq_true (by kernel_rfl)) (by unfold Func.isWrapper; first | (rw [if_pos (by decide +kernel)]; kernel_rfl) | (rw [if_neg (by decide +kernel)]; exact ⟨rfl, rfl⟩))
    (fun os started H enc _ => lifted os started H enc)

theorem proved : Rows.LexBackCardSaid :=
  Claim7.holds_tied_plain_at .later [] [.data, .data, .data, .sentinel, .sentinel, .data, .data] true _ true
    over (fun _ h => by cases h) (by kernel_rfl) (fun _ h => by cases h) lexBack_row_tie rfl ⟨rfl, rfl⟩ (by kernel_rfl) rfl
    (fun f fn hf hfn => by
      obtain rfl : f = 4 := Option.some.inj ((show Tryd.prog.funcNamed "stockpot/stockpotlaw14.LexBack" = some 4 by kernel_rfl).symm.trans hf) |>.symm
      obtain rfl : fn = Tryd.f4 := (Option.some.inj (Tryd.func4.symm.trans hfn)).symm
      exact ⟨by kernel_rfl, fun j t ht => by
        have hall : (Tryd.f4.params.toList.all fun u => !Tryd.prog.wantsStandIn u) = true := by kernel_rfl
        exact (show Tryd.prog.wantsStandIn t = false by simpa using List.all_eq_true.1 hall t (by simpa using Array.mem_of_getElem? ht))⟩)
    (by kernel_rfl)
#print axioms proved
end Go.Proofs.YtlidegofnkmenaaDoor.lexBack
