/-
  Package lex: whether a text is one word of a kind; the token that stands for a text.
  Conditions: the tables of package lex and the library's variables read as the program's text lays them; texts of no more than 100,000 bytes.
-/
import Derived.Test.YtlidegofnkmenaaDoorLxH
namespace Go.Proofs.YtlidegofnkmenaaDoor
open Go.ChangeShapes Go.WideShapes Go.ChangeAt Go.RowKit
set_option linter.unusedVariables false
set_option linter.unusedSimpArgs false
set_option maxRecDepth 100000
set_option maxHeartbeats 400000

theorem bytes_nil (s : ByteArray) : (s.toList == []) = decide (s.size = 0) := by
  rw [ByteArray.toList_eq, ← ls_len]
  by_cases h : (Ls s).length = 0
  · rw [decide_eq_true h]; simpa using List.length_eq_zero_iff.1 h
  · rw [decide_eq_false h]; simp only [beq_eq_false_iff_ne]; intro e; exact h (by rw [Ls, e]; rfl)

theorem isAll_any (s : ByteArray) (hs : s.size ≤ 100000) (kind : Int) (w : World) (T : LxTab w) :
    Calls Tryd.prog 30 #[.string s, .int .i64 kind] w fun e w' => e = .returned (.bool (isAll (Ls s) kind)) ∧ Below w.heap.size w w' := by
  by_cases h0 : s.size = 0
  · have k1 : (s.toList == []) = true := by rw [bytes_nil, decide_eq_true h0]
    have HZ : Hid (isAll (Ls s) kind = false) := Lib.hid (by
      rw [isAll, show firstP (Ls s) = none by unfold firstP; rw [if_pos (by rw [ls_len]; exact h0)]])
    clear h0 T
    go_enter Tryd.func30, Tryd.ntmps30
    go_wp2_with fail
    go_ret
    exact ⟨ret_bool HZ.out.symm, Below.refl _ _⟩
  · have k1 : (s.toList == []) = false := by rw [bytes_nil, decide_eq_false h0]
    cases hx : firstP (Ls s) with
    | none =>
      have HZ : Hid (isAll (Ls s) kind = false) := Lib.hid (by rw [isAll, hx])
      have HC := first_none (s := s) (by omega) hs hx w T
      have i1 : ((0 : Int) == s.size) = false := by rw [beq_eq_false_iff_ne]; omega
      clear h0 T hx
      go_enter Tryd.func30, Tryd.ntmps30
      go_wp2_with (go_at_call 20; refine HC.mono ?_; rintro e w1 ⟨rfl, b1⟩; replace b1 := Lib.hid b1)
      all_goals (go_ret; exact ⟨ret_bool HZ.out.symm, b1.out.alloc b1.out.size _⟩)
    | some x =>
      obtain ⟨k, t, n⟩ := x
      obtain ⟨b, hb⟩ : ∃ b : ByteArray, b = ⟨t.toArray⟩ := ⟨_, rfl⟩
      have HC := first_some (s := s) (by omega) hs hx hb w T
      have HZ : isAll (Ls s) kind = (decide (n = s.size) && decide (k = kind)) := by rw [isAll, hx]; simp only [ls_len]
      by_cases c1 : n = s.size
      · have i1 : ((n : Int) == s.size) = true := by rw [beq_iff_eq]; omega
        have HZ2 : Hid (isAll (Ls s) kind = (k == kind)) := Lib.hid (by rw [HZ, decide_eq_true c1, Bool.true_and]; by_cases h : k = kind <;> simp [h])
        clear h0 T hx HZ c1
        go_enter Tryd.func30, Tryd.ntmps30
        go_wp2_with (go_at_call 20; refine HC.mono ?_; rintro e w1 ⟨rfl, b1⟩; replace b1 := Lib.hid b1)
        all_goals (go_ret; exact ⟨ret_bool HZ2.out.symm, b1.out.alloc b1.out.size _⟩)
      · have i1 : ((n : Int) == s.size) = false := by rw [beq_eq_false_iff_ne]; omega
        have HZ2 : Hid (isAll (Ls s) kind = false) := Lib.hid (by rw [HZ, decide_eq_false c1]; rfl)
        clear h0 T hx HZ c1
        go_enter Tryd.func30, Tryd.ntmps30
        go_wp2_with (go_at_call 20; refine HC.mono ?_; rintro e w1 ⟨rfl, b1⟩; replace b1 := Lib.hid b1)
        all_goals (go_ret; exact ⟨ret_bool HZ2.out.symm, b1.out.alloc b1.out.size _⟩)
theorem isName_any (s : ByteArray) (hs : s.size ≤ 100000) (w : World) (T : LxTab w) :
    Calls Tryd.prog 15 #[.string s] w fun e w' => e = .returned (.bool (isAll (Ls s) 1)) ∧ Below w.heap.size w w' := by
  have HC := isAll_any s hs 1 w T
  clear T
  go_enter Tryd.func15, Tryd.ntmps15
  go_wp2_with (go_at_call 30; refine HC.mono ?_; rintro e w1 ⟨rfl, b1⟩; replace b1 := Lib.hid b1)
  go_ret
  exact ⟨rfl, b1.out⟩
theorem isCon_any (s : ByteArray) (hs : s.size ≤ 100000) (w : World) (T : LxTab w) :
    Calls Tryd.prog 17 #[.string s] w fun e w' => e = .returned (.bool (isAll (Ls s) 2)) ∧ Below w.heap.size w w' := by
  have HC := isAll_any s hs 2 w T
  clear T
  go_enter Tryd.func17, Tryd.ntmps17
  go_wp2_with (go_at_call 30; refine HC.mono ?_; rintro e w1 ⟨rfl, b1⟩; replace b1 := Lib.hid b1)
  go_ret
  exact ⟨rfl, b1.out⟩

/-! ## Quote -/
def quV (l : List UInt8) : Value := .tuple #[.string ⟨(quP l).toArray⟩, .bool (quO l)]
def QuRet (l : List UInt8) (e : Ending) : Prop := e = .returned (quV l)
theorem qu_mk {l : List UInt8} {b : ByteArray} {o : Bool} (h : quP l = Ls b) (ho : quO l = o) : QuRet l (.returned (.tuple #[.string b, .bool o])) := by
  subst ho
  unfold QuRet quV
  rw [h]
/-- The token's bytes, under way. -/
structure QuIn (w : World) (q : List UInt8) (v : Value) (wr : World) : Prop where
  own : wr.ownsRow w.heap.size 5 1 v q.length (byL q)
  bel : Below w.heap.size w wr
theorem QuIn.below {w wr wr' : World} {l : List UInt8} {v : Value} (h : QuIn w l v wr) (hb : Below wr.heap.size wr wr') : QuIn w l v wr' where
  own := owns_upon h.own (Upon.of_below (S := fun _ => False) hb) fun _ _ t => t
  bel := h.bel.trans (hb.mono h.bel.size)
theorem QuIn.grow {w wr wr' : World} {l l' : List UInt8} {v v' : Value} (h : QuIn w l v wr) (ho : wr'.ownsRow w.heap.size 5 1 v' l'.length (byL l')) (hg : wr.grownBy wr' v.ownBlock) : QuIn w l' v' wr' where
  own := ho
  bel := by
    have hu : Upon (fun g => v.ownBlock = some g) wr wr' := ⟨hg.os, hg.tape, hg.output, hg.size, fun k hk h => hg.block k hk fun e => h e.symm⟩
    exact h.bel.trans (hu.belowB h.bel.size fun k e => own_geL h.own k e)
theorem qB_len (l : List UInt8) : (l.flatMap qB).length ≤ 2 * l.length := by
  induction l with
  | nil => simp
  | cons c r ih =>
    rw [List.flatMap_cons, List.length_append, List.length_cons]
    have : (qB c).length ≤ 2 := by
      unfold qB
      by_cases h1 : c.toNat = 10
      · rw [if_pos h1]; exact Nat.le_refl _
      · rw [if_neg h1]
        by_cases h2 : c.toNat = 34 ∨ c.toNat = 92
        · rw [if_pos h2]; exact Nat.le_refl _
        · rw [if_neg h2]; exact Nat.le_succ _
    omega
theorem conv_ownsN {w : World} {B : Nat} {v : Value} {n : Nat} {l : List UInt8} (h : w.ownsRow B 5 1 v n (byL l)) (hn : n = l.length) : (convert 52 9 v).run Tryd.prog w = .ok (.string ⟨l.toArray⟩) w := by
  subst hn; exact conv_owns h

theorem quote_any (s : ByteArray) (hs : s.size ≤ 100000) (w : World) :
    Calls Tryd.prog 12 #[.string s] w fun e w' => QuRet (Ls s) e ∧ Below w.heap.size w w' := by
  by_cases hbig : 60 < s.size
  · have HP : Hid (quP (Ls s) = []) := Lib.hid (by unfold quP; rw [if_pos (by rw [ls_len]; exact hbig)])
    have HO : Hid (quO (Ls s) = false) := Lib.hid (by unfold quO; rw [decide_eq_false (by rw [ls_len]; omega)]; rfl)
    have i1 : (60 : Int) < s.size := by omega
    clear hbig
    go_enter Tryd.func12, Tryd.ntmps12
    go_wp2_with fail
    go_ret2
    exact ⟨qu_mk HP.out HO.out, Below.refl _ _⟩
  · have i1 : (s.size : Int) ≤ 60 := by omega
    have HP : Hid (quP (Ls s) = if (Ls s).all qOk = true then 34 :: ((Ls s).flatMap qB ++ [34]) else []) := Lib.hid (by unfold quP; rw [if_neg (by rw [ls_len]; exact hbig)])
    have HO : Hid (quO (Ls s) = (Ls s).all qOk) := Lib.hid (by unfold quO; rw [decide_eq_true (by rw [ls_len]; omega)]; rfl)
    obtain ⟨i0, hi, hz0, hz1, hz2⟩ := info_parts info_byteL
    clear hbig
    go_enter Tryd.func12, Tryd.ntmps12
    go_wp2_with fail
    go_loopw [4, 13] (fun v i wr => ∃ k : Nat, i = .int .i64 k ∧ k ≤ s.size ∧ Hid (QuIn w (34 :: ((Ls s).take k).flatMap qB) v wr) ∧ Hid (((Ls s).take k).all qOk = true)) (fun _ i _ => s.size - (intOf i).toNat)
    case atStart =>
      refine ⟨0, rfl, by omega, Lib.hid ⟨?_, below_alloc _⟩, Lib.hid (by simp)⟩
      exact owns_mk (rest := []) (rowAt.made w 5 [.int .u8 34]) (Nat.le_refl _) (by rfl) (by rfl) (Nat.le_refl _) (by unfold maxLen; omega)
    case round =>
      obtain ⟨k, rfl, hk, HI, HA⟩ := hrel
      have hql : (34 :: ((Ls s).take k).flatMap qB).length ≤ 121 := by
        have := qB_len ((Ls s).take k)
        rw [List.length_take, ls_len] at this
        rw [List.length_cons]; omega
      obtain ⟨q, hq⟩ : ∃ q, 34 :: ((Ls s).take k).flatMap qB = q := ⟨_, rfl⟩
      rw [hq] at HI hql
      obtain ⟨a, c, rfl⟩ := owns_slice HI.out.own
      have HQ := Lib.hid hq
      clear hq
      have zR := Lib.hid HI.out.bel.size
      by_cases hlt : k < s.size
      · have i2 : (k : Int) < s.size := by omega
        obtain ⟨d, hd⟩ : ∃ d, byN (Ls s) k = d := ⟨_, rfl⟩
        have hg : s[k].toNat = d := by rw [get_byN s k hlt, hd]
        have hkL : k < (Ls s).length := by rw [ls_len]; exact hlt
        obtain ⟨b, hb⟩ : ∃ b, (Ls s)[k] = b := ⟨_, rfl⟩
        have hbd : b.toNat = d := by rw [← hd, ← hb]; unfold byN; rw [List.getD_eq_getElem?_getD, List.getElem?_eq_getElem hkL]; rfl
        have htk : (Ls s).take (k + 1) = (Ls s).take k ++ [b] := by rw [List.take_add_one, List.getElem?_eq_getElem hkL, hb]; rfl
        have HQ2 : Hid (34 :: ((Ls s).take (k + 1)).flatMap qB = q ++ qB b) := Lib.hid (by rw [htk, List.flatMap_append, ← HQ.out]; simp)
        have HB := Lib.hid hbd
        have HA2 : Hid (qOk b = true → ((Ls s).take (k + 1)).all qOk = true) := Lib.hid fun h => by rw [htk, List.all_append, HA.out]; simp [h]
        have HA3 : Hid (qOk b = false → (Ls s).all qOk = false) := Lib.hid fun h => by
          rw [List.all_eq_false]; exact ⟨b, hb ▸ List.getElem_mem hkL, by rw [h]; decide⟩
        clear hd hkL hb hbd htk HQ HA
        by_cases c1 : d = 10
        · subst c1
          have HOK := Lib.hid (HA2.out (by unfold qOk; rw [HB.out]; rfl))
          have QB : Hid (qB b = [92, 110]) := Lib.hid (by unfold qB; rw [if_pos HB.out])
          have HBY : Hid (byL (q ++ [92, 110]) = byL q ++ [.int .u8 92, .int .u8 110]) := Lib.hid (by simp [byL, HB.out])
          obtain ⟨W, hW⟩ : ∃ W, wr.alloc (.cells #[.int .u8 92, .int .u8 110] 5) = W := ⟨_, rfl⟩
          have hbW : Below wr.heap.size wr W := by rw [← hW]; exact (Below.refl _ _).alloc (Nat.le_refl _) _
          have ROW := Lib.hid (show rowAt W wr.heap.size 5 [.int .u8 92, .int .u8 110] by rw [← hW]; exact rowAt.made _ _ _)
          have FW := Lib.hid (HI.out.below hbW)
          have OWN := Lib.hid FW.out.own
          have zW := Lib.hid FW.out.bel.size
          clear hbW HI
          clear HA2 HA3 HP HO
          go_wp2_with (at_builtin; refine wpList_append_w (by rfl) _ _ _ (by rfl) w.heap.size 5 i0 (.int .u8 0) 1 1 under_bytesL hi hz0 hz1 hz2 (by rfl) (by decide) (.slice a q.length c) q.length (byL q) (by rfl) OWN.out _ 2 2 [.int .u8 92, .int .u8 110] (by rfl) (by rfl) (src_rowL ROW.out 2) (by simp [Value.oneCell']) (by unfold maxLen; omega) (by omega) zW.out ?_; intro v' w2 hown2 hgrow2 hb2; obtain ⟨a2, c2', rfl⟩ := owns_slice hown2; have HOW2 := Lib.hid hown2; have HGR2 := Lib.hid hgrow2; clear hown2 hgrow2 hb2)
          go_roundw
          case rel => exact ⟨k + 1, by go_num, by omega, Lib.hid (by rw [HQ2.out, QB.out]; exact FW.out.grow (l' := q ++ [92, 110]) (by rw [HBY.out, List.length_append]; exact HOW2.out) HGR2.out), HOK⟩
          case measure => simp [intOf]; omega
        · have j1 : ¬ (d : Int) = 10 := by omega
          cases hp : plN d
          · have HP3 := Lib.hid hp
            have HN := Lib.hid (HA3.out (by unfold qOk; rw [HB.out, hp, decide_eq_false c1]; rfl))
            have HBEL := Lib.hid HI.out.bel
            clear HI HQ2 HA2 HA3 HB hp c1
            go_wp2_with (go_at_call 29; refine (isPlain_is HP3.out _).mono ?_; rintro e w' ⟨rfl, rfl⟩)
            go_ret2
            exact ⟨qu_mk (by rw [HP.out, HN.out]; rfl) (by rw [HO.out, HN.out]), HBEL.out⟩
          · have HP3 := Lib.hid hp
            have HOK := Lib.hid (HA2.out (by unfold qOk; rw [HB.out, hp]; simp))
            by_cases c2 : d = 34
            · subst c2
              have QB : Hid (qB b = [92, b]) := Lib.hid (by unfold qB; rw [if_neg (by rw [HB.out]; decide), if_pos (.inl HB.out)])
              have HBY : Hid (byL (q ++ [92, b]) = byL q ++ [.int .u8 92, .int .u8 34]) := Lib.hid (by simp [byL, HB.out])
              obtain ⟨W, hW⟩ : ∃ W, wr.alloc (.cells #[.int .u8 92, .int .u8 34] 5) = W := ⟨_, rfl⟩
              have hbW : Below wr.heap.size wr W := by rw [← hW]; exact (Below.refl _ _).alloc (Nat.le_refl _) _
              have ROW := Lib.hid (show rowAt W wr.heap.size 5 [.int .u8 92, .int .u8 34] by rw [← hW]; exact rowAt.made _ _ _)
              have FW := Lib.hid (HI.out.below hbW)
              have OWN := Lib.hid FW.out.own
              have zW := Lib.hid FW.out.bel.size
              clear hbW HI
              clear HA2 HA3 HP HO
              go_wp2_with (first | (go_at_call 29; refine (isPlain_is HP3.out _).mono ?_; rintro e w' ⟨rfl, rfl⟩) | (at_builtin; refine wpList_append_w (by rfl) _ _ _ (by rfl) w.heap.size 5 i0 (.int .u8 0) 1 1 under_bytesL hi hz0 hz1 hz2 (by rfl) (by decide) (.slice a q.length c) q.length (byL q) (by rfl) OWN.out _ 2 2 [.int .u8 92, .int .u8 34] (by rfl) (by rfl) (src_rowL ROW.out 2) (by simp [Value.oneCell']) (by unfold maxLen; omega) (by omega) zW.out ?_; intro v' w2 hown2 hgrow2 hb2; obtain ⟨a2, c2', rfl⟩ := owns_slice hown2; have HOW2 := Lib.hid hown2; have HGR2 := Lib.hid hgrow2; clear hown2 hgrow2 hb2))
              go_roundw
              case rel => exact ⟨k + 1, by go_num, by omega, Lib.hid (by rw [HQ2.out, QB.out]; exact FW.out.grow (l' := q ++ [92, b]) (by rw [HBY.out, List.length_append]; exact HOW2.out) HGR2.out), HOK⟩
              case measure => simp [intOf]; omega
            · by_cases c3 : d = 92
              · subst c3
                have QB : Hid (qB b = [92, b]) := Lib.hid (by unfold qB; rw [if_neg (by rw [HB.out]; decide), if_pos (.inr HB.out)])
                have HBY : Hid (byL (q ++ [92, b]) = byL q ++ [.int .u8 92, .int .u8 92]) := Lib.hid (by simp [byL, HB.out])
                obtain ⟨W, hW⟩ : ∃ W, wr.alloc (.cells #[.int .u8 92, .int .u8 92] 5) = W := ⟨_, rfl⟩
                have hbW : Below wr.heap.size wr W := by rw [← hW]; exact (Below.refl _ _).alloc (Nat.le_refl _) _
                have ROW := Lib.hid (show rowAt W wr.heap.size 5 [.int .u8 92, .int .u8 92] by rw [← hW]; exact rowAt.made _ _ _)
                have FW := Lib.hid (HI.out.below hbW)
                have OWN := Lib.hid FW.out.own
                have zW := Lib.hid FW.out.bel.size
                clear hbW HI
                clear HA2 HA3 HP HO
                go_wp2_with (first | (go_at_call 29; refine (isPlain_is HP3.out _).mono ?_; rintro e w' ⟨rfl, rfl⟩) | (at_builtin; refine wpList_append_w (by rfl) _ _ _ (by rfl) w.heap.size 5 i0 (.int .u8 0) 1 1 under_bytesL hi hz0 hz1 hz2 (by rfl) (by decide) (.slice a q.length c) q.length (byL q) (by rfl) OWN.out _ 2 2 [.int .u8 92, .int .u8 92] (by rfl) (by rfl) (src_rowL ROW.out 2) (by simp [Value.oneCell']) (by unfold maxLen; omega) (by omega) zW.out ?_; intro v' w2 hown2 hgrow2 hb2; obtain ⟨a2, c2', rfl⟩ := owns_slice hown2; have HOW2 := Lib.hid hown2; have HGR2 := Lib.hid hgrow2; clear hown2 hgrow2 hb2))
                go_roundw
                case rel => exact ⟨k + 1, by go_num, by omega, Lib.hid (by rw [HQ2.out, QB.out]; exact FW.out.grow (l' := q ++ [92, b]) (by rw [HBY.out, List.length_append]; exact HOW2.out) HGR2.out), HOK⟩
                case measure => simp [intOf]; omega
              · have j2 : ¬ (d : Int) = 34 := by omega
                have j3 : ¬ (d : Int) = 92 := by omega
                have QB : Hid (qB b = [b]) := Lib.hid (by unfold qB; rw [if_neg (by rw [HB.out]; exact c1), if_neg (by rw [HB.out]; omega)])
                have HBY : Hid (byL (q ++ [b]) = byL q ++ [.int .u8 (d : Nat)]) := Lib.hid (by simp [byL, HB.out])
                obtain ⟨W, hW⟩ : ∃ W, wr.alloc (.cells #[.int .u8 (d : Nat)] 5) = W := ⟨_, rfl⟩
                have hbW : Below wr.heap.size wr W := by rw [← hW]; exact (Below.refl _ _).alloc (Nat.le_refl _) _
                have ROW := Lib.hid (show rowAt W wr.heap.size 5 [.int .u8 (d : Nat)] by rw [← hW]; exact rowAt.made _ _ _)
                have FW := Lib.hid (HI.out.below hbW)
                have OWN := Lib.hid FW.out.own
                have zW := Lib.hid FW.out.bel.size
                clear hbW HI
                clear HA2 HA3 HP HO
                go_wp2_with (first | (go_at_call 29; refine (isPlain_is HP3.out _).mono ?_; rintro e w' ⟨rfl, rfl⟩) | (at_builtin; refine wpList_append_w (by rfl) _ _ _ (by rfl) w.heap.size 5 i0 (.int .u8 0) 1 1 under_bytesL hi hz0 hz1 hz2 (by rfl) (by decide) (.slice a q.length c) q.length (byL q) (by rfl) OWN.out _ 1 1 [.int .u8 (d : Nat)] (by rfl) (by rfl) (src_rowL ROW.out 1) (by simp [Value.oneCell']) (by unfold maxLen; omega) (by omega) zW.out ?_; intro v' w2 hown2 hgrow2 hb2; obtain ⟨a2, c2', rfl⟩ := owns_slice hown2; have HOW2 := Lib.hid hown2; have HGR2 := Lib.hid hgrow2; clear hown2 hgrow2 hb2))
                go_roundw
                case rel => exact ⟨k + 1, by go_num, by omega, Lib.hid (by rw [HQ2.out, QB.out]; exact FW.out.grow (l' := q ++ [b]) (by rw [HBY.out, List.length_append]; exact HOW2.out) HGR2.out), HOK⟩
                case measure => simp [intOf]; omega
      · have hkk : k = s.size := by omega
        have i3 : (s.size : Int) ≤ k := by omega
        have htk : (Ls s).take k = Ls s := List.take_of_length_le (by rw [ls_len]; omega)
        have HQ2 : Hid (quP (Ls s) = q ++ [34]) := Lib.hid (by rw [HP.out, ← HQ.out, htk, if_pos (by rw [← htk]; exact HA.out)]; rfl)
        have HO2 : Hid (quO (Ls s) = true) := Lib.hid (by rw [HO.out, ← htk]; exact HA.out)
        clear HQ HA HP HO hkk htk
        obtain ⟨W, hW⟩ : ∃ W, wr.alloc (.cells #[.int .u8 34] 5) = W := ⟨_, rfl⟩
        have hbW : Below wr.heap.size wr W := by rw [← hW]; exact (Below.refl _ _).alloc (Nat.le_refl _) _
        have ROW := Lib.hid (show rowAt W wr.heap.size 5 [.int .u8 34] by rw [← hW]; exact rowAt.made _ _ _)
        have FW := Lib.hid (HI.out.below hbW)
        have OWN := Lib.hid FW.out.own
        have zW := Lib.hid FW.out.bel.size
        clear hbW HI
        have HBY : Hid (byL (q ++ [34]) = byL q ++ [.int .u8 34]) := Lib.hid (byL_snoc q 34)
        go_wp2_with (at_builtin; refine wpList_append_w (by rfl) _ _ _ (by rfl) w.heap.size 5 i0 (.int .u8 0) 1 1 under_bytesL hi hz0 hz1 hz2 (by rfl) (by decide) (.slice a q.length c) q.length (byL q) (by rfl) OWN.out _ 1 1 [.int .u8 34] (by rfl) (by rfl) (src_rowL ROW.out 1) (by simp [Value.oneCell']) (by unfold maxLen; omega) (by omega) zW.out ?_; intro v' w2 hown2 hgrow2 hb2; obtain ⟨a2, c2', rfl⟩ := owns_slice hown2; have hcv := conv_ownsN (l := q ++ [34]) (by rw [HBY.out]; exact hown2) (by simp); have HOW2 := Lib.hid hown2; have HGR2 := Lib.hid hgrow2; clear hown2 hgrow2 hb2)
        go_ret2
        exact ⟨qu_mk (by rw [HQ2.out, ls_mk]) HO2.out, (FW.out.grow (l' := q ++ [34]) (by rw [HBY.out, List.length_append]; exact HOW2.out) HGR2.out).bel⟩
end Go.Proofs.YtlidegofnkmenaaDoor
