/-
  For every text the law LexQuotes returns true, and its argument reads as it did. Condition: the library's tables and errors and package lex's tables of words and signs read when the call begins as the program's text lays them (the card ties them).
-/
import Derived.Test.YtlidegofnkmenaaDoorLxW
import Derived.Test.YtlidegofnkmenaaDoorTie
import Derived.Test.YtlidegofnkmenaaDoorCards
import Derived.SevenTiedAt
import Derived.LaidMore
import Derived.Stop.Joined
namespace Go.Proofs.YtlidegofnkmenaaDoor.lexQuotes
open Go.ChangeShapes Go.WideShapes Go.ChangeAt Go.RowKit
set_option linter.unusedVariables false
set_option linter.unusedSimpArgs false
set_option linter.unusedVariables false
set_option maxRecDepth 100000

theorem own : ownKnob Tryd.prog.godebug = none := by kernel_rfl
theorem laidOut : laidOutB Tryd.prog = true := by kernel_rfl

set_option maxHeartbeats 400000

def spO (d : Nat) : Nat := if d = 10 ∨ d = 34 ∨ d = 92 then 1 else 0
def spN (l : List UInt8) : Nat := (l.map fun c => spO c.toNat).sum
theorem spN_snoc (l : List UInt8) (b : UInt8) : spN (l ++ [b]) = spN l + spO b.toNat := by simp [spN]
theorem spN_le (l : List UInt8) : spN l ≤ l.length := by
  induction l with
  | nil => exact Nat.le_refl _
  | cons c r ih =>
    unfold spN at ih ⊢
    rw [List.map_cons, List.sum_cons, List.length_cons]
    have : spO c.toNat ≤ 1 := by unfold spO; split <;> omega
    omega
theorem qB_length (c : UInt8) : (qB c).length = 1 + spO c.toNat := by
  unfold qB spO
  by_cases h1 : c.toNat = 10
  · rw [if_pos h1, if_pos (.inl h1)]; rfl
  · rw [if_neg h1]
    by_cases h2 : c.toNat = 34 ∨ c.toNat = 92
    · rw [if_pos h2, if_pos (.inr h2)]; rfl
    · rw [if_neg h2, if_neg (by omega)]; rfl
theorem qBs_length (l : List UInt8) : (l.flatMap qB).length = l.length + spN l := by
  induction l with
  | nil => rfl
  | cons c r ih =>
    unfold spN at ih ⊢
    rw [List.flatMap_cons, List.length_append, qB_length, ih, List.map_cons, List.sum_cons, List.length_cons]
    omega
theorem quP_no {l : List UInt8} (h : quO l = false) : quP l = [] := by
  unfold quO at h
  unfold quP
  by_cases c : 60 < l.length
  · rw [if_pos c]
  · rw [if_neg c]
    rw [decide_eq_true (by omega), Bool.true_and] at h
    rw [if_neg (by rw [h]; decide)]
theorem quP_yes {l : List UInt8} (h : quO l = true) : quP l = 34 :: (l.flatMap qB ++ [34]) := by
  unfold quO at h
  simp only [Bool.and_eq_true, decide_eq_true_eq] at h
  unfold quP
  rw [if_neg (by omega), if_pos h.2]
theorem quP_len {l : List UInt8} (h : quO l = true) : (quP l).length = 2 + l.length + spN l := by
  rw [quP_yes h, List.length_cons, List.length_append, qBs_length, List.length_singleton]; omega
theorem quP_ends {l : List UInt8} (h : quO l = true) : byN (quP l) 0 = 34 ∧ byN (quP l) ((quP l).length - 1) = 34 := by
  rw [quP_yes h]
  refine ⟨rfl, ?_⟩
  unfold byN
  rw [List.length_cons, List.length_append, List.length_singleton]
  rw [show (l.flatMap qB).length + 1 + 1 - 1 = (l.flatMap qB).length + 1 by omega, List.getD_eq_getElem?_getD, List.getElem?_cons_succ, List.getElem?_append_right (Nat.le_refl _), Nat.sub_self]
  rfl

theorem walk (s : ByteArray) (w0 : s.size ≤ maxLen) (w : World) (T : LxTab w) :
    Calls Tryd.prog 7 #[.string s] w fun e w' => e = .returned (.bool true) ∧ Below w.heap.size w w' := by
  have HT := Lib.hid T
  clear T
  unfold maxLen at w0
  by_cases hbig : 200 < s.size
  · have i0 : (200 : Int) < s.size := by omega
    clear hbig
    go_enter Tryd.func7, Tryd.ntmps7
    go_wp2_with (go_at_call 9; refine (wakes_any _ HT.out).mono ?_; rintro e w' ⟨rfl, bw⟩; replace bw := Lib.hid bw)
    go_ret
    exact ⟨rfl, bw.out⟩
  · have i0 : (s.size : Int) ≤ 200 := by omega
    obtain ⟨q, hq⟩ : ∃ q : ByteArray, Ls q = quP (Ls s) := ⟨⟨(quP (Ls s)).toArray⟩, ls_mk _⟩
    obtain ⟨ok, hok⟩ : ∃ ok, quO (Ls s) = ok := ⟨_, rfl⟩
    have HC := quote_is (s := s) (b := q) (by omega) hq.symm hok w
    have hqs : q.size = (quP (Ls s)).length := by rw [← ls_len, hq]
    have HO := Lib.hid hok
    have HQ := Lib.hid hq
    have HS := Lib.hid hqs
    clear hbig hq hok hqs
    go_enter Tryd.func7, Tryd.ntmps7
    go_wp2_with (go_at_call 12; refine HC.mono ?_; rintro e w1 ⟨rfl, hb⟩; replace hb := Lib.hid hb)
    go_loop [5, 6, 7] (fun vn vm vi => ∃ k : Nat, vi = .int .i64 k ∧ k ≤ s.size ∧ vn = .int .i64 ((2 + s.size + spN ((Ls s).take k) : Nat) : Int) ∧ vm = .bool (decide (s.size ≤ 60) && ((Ls s).take k).all qOk)) (fun _ _ vi => s.size - (intOf vi).toNat)
    case atStart => exact ⟨0, rfl, by omega, by go_num, by simp; omega⟩
    case round =>
      obtain ⟨k, rfl, hk, rfl, rfl⟩ := hrel
      have hsp := spN_le ((Ls s).take k)
      rw [List.length_take, ls_len] at hsp
      obtain ⟨p, hp⟩ : ∃ p, spN ((Ls s).take k) = p := ⟨_, rfl⟩
      obtain ⟨m, hm⟩ : ∃ m, (decide (s.size ≤ 60) && ((Ls s).take k).all qOk) = m := ⟨_, rfl⟩
      rw [hp] at hsp ⊢
      rw [hm]
      have hpk : p ≤ 200 := by omega
      by_cases hlt : k < s.size
      · have i2 : (k : Int) < s.size := by omega
        obtain ⟨d, hd⟩ : ∃ d, byN (Ls s) k = d := ⟨_, rfl⟩
        have hg : s[k].toNat = d := by rw [get_byN s k hlt, hd]
        have hkL : k < (Ls s).length := by rw [ls_len]; exact hlt
        obtain ⟨b, hb'⟩ : ∃ b, (Ls s)[k] = b := ⟨_, rfl⟩
        have hbd : b.toNat = d := by rw [← hd, ← hb']; unfold byN; rw [List.getD_eq_getElem?_getD, List.getElem?_eq_getElem hkL]; rfl
        have htk : (Ls s).take (k + 1) = (Ls s).take k ++ [b] := by rw [List.take_add_one, List.getElem?_eq_getElem hkL, hb']; rfl
        have HN : Hid (spN ((Ls s).take (k + 1)) = p + spO d) := Lib.hid (by rw [htk, spN_snoc, hp, hbd])
        have HM : Hid ((decide (s.size ≤ 60) && ((Ls s).take (k + 1)).all qOk) = (m && (decide (d = 10) || plN d))) := Lib.hid (by rw [htk, List.all_append, ← Bool.and_assoc, hm]; unfold qOk; simp [hbd])
        clear hd hkL hb' hbd htk hp hm hsp HC HO HQ HS
        by_cases c1 : d = 10
        · subst c1
          go_wp2_with fail
          exact ⟨⟨k + 1, by go_num, by omega, by rw [HN.out] <;> go_num, by rw [HM.out]; simp⟩, by simp [intOf]; omega⟩
        · by_cases c2 : d = 34
          · subst c2
            go_wp2_with fail
            exact ⟨⟨k + 1, by go_num, by omega, by rw [HN.out] <;> go_num, by rw [HM.out]; simp [plN]⟩, by simp [intOf]; omega⟩
          · by_cases c3 : d = 92
            · subst c3
              go_wp2_with fail
              exact ⟨⟨k + 1, by go_num, by omega, by rw [HN.out] <;> go_num, by rw [HM.out]; simp [plN]⟩, by simp [intOf]; omega⟩
            · have j1 : ((d : Int) == 10) = false := by rw [beq_eq_false_iff_ne]; omega
              have j2 : ((d : Int) == 34) = false := by rw [beq_eq_false_iff_ne]; omega
              have j3 : ((d : Int) == 92) = false := by rw [beq_eq_false_iff_ne]; omega
              have HN2 : Hid (spN ((Ls s).take (k + 1)) = p) := Lib.hid (by rw [HN.out]; unfold spO; rw [if_neg (by omega), Nat.add_zero])
              by_cases c4 : d < 32
              · have j4 : (d : Int) < 32 := by omega
                have HM2 : Hid ((decide (s.size ≤ 60) && ((Ls s).take (k + 1)).all qOk) = false) := Lib.hid (by rw [HM.out, decide_eq_false c1]; unfold plN; rw [decide_eq_false (by omega)]; simp)
                clear HM HN
                go_wp2_with fail
                exact ⟨⟨k + 1, by go_num, by omega, by rw [HN2.out] <;> go_num, by rw [HM2.out]⟩, by simp [intOf]; omega⟩
              · by_cases c5 : 126 < d
                · have j4 : (32 : Int) ≤ d := by omega
                  have j5 : (126 : Int) < d := by omega
                  have HM2 : Hid ((decide (s.size ≤ 60) && ((Ls s).take (k + 1)).all qOk) = false) := Lib.hid (by rw [HM.out, decide_eq_false c1]; unfold plN; rw [decide_eq_false (by omega)]; simp)
                  clear HM HN
                  go_wp2_with fail
                  exact ⟨⟨k + 1, by go_num, by omega, by rw [HN2.out] <;> go_num, by rw [HM2.out]⟩, by simp [intOf]; omega⟩
                · have j4 : (32 : Int) ≤ d := by omega
                  have j5 : (d : Int) ≤ 126 := by omega
                  have HM2 : Hid ((decide (s.size ≤ 60) && ((Ls s).take (k + 1)).all qOk) = m) := Lib.hid (by rw [HM.out]; unfold plN; rw [decide_eq_true (p := 32 ≤ d ∧ d ≤ 126) (by omega)]; simp)
                  clear HM HN
                  go_wp2_with fail
                  exact ⟨⟨k + 1, by go_num, by omega, by rw [HN2.out] <;> go_num, by rw [HM2.out]⟩, by simp [intOf]; omega⟩
      · have hkk : k = s.size := by omega
        have htk : (Ls s).take k = Ls s := List.take_of_length_le (by rw [ls_len]; omega)
        have i3 : (s.size : Int) ≤ k := by omega
        have hmo : m = ok := by rw [← hm, ← HO.out, htk]; unfold quO; rw [ls_len]
        subst hmo
        rw [htk] at hp
        have hTB := HT.out.below hb.out
        have HTB := Lib.hid hTB
        cases m
        · have hz : q.size = 0 := by rw [HS.out, quP_no HO.out]; rfl
          have k1 : (q.toList == []) = true := by rw [bytes_nil, decide_eq_true hz]
          clear hkk htk hp hm hsp HC HO HQ HS hTB hz
          go_wp2_with (go_at_call 9; refine (wakes_any _ HTB.out).mono ?_; rintro e w' ⟨rfl, bw⟩; replace bw := Lib.hid bw)
          go_ret
          exact ⟨rfl, below_chain hb.out bw.out⟩
        · have hl := quP_len HO.out
          rw [hp, ls_len] at hl
          have hqn : q.size = 2 + s.size + p := by rw [HS.out, hl]
          have hp0 : 0 < q.size := by omega
          have hp1 : 2 + s.size + p - 1 < q.size := by omega
          have hq0 : q[0].toNat = 34 := by rw [get_byN q 0 hp0, HQ.out]; exact (quP_ends HO.out).1
          have hq1 : q[2 + s.size + p - 1].toNat = 34 := by rw [get_byN q _ hp1, HQ.out, ← hqn, HS.out]; exact (quP_ends HO.out).2
          have x1 : ((q.size : Int) == ((2 + s.size + p : Nat) : Int)) = true := by rw [beq_iff_eq]; omega
          have x2 : (0 : Int) < q.size := by omega
          clear hkk htk hp hm hsp HC HO HQ HS hTB hl
          go_wp2_with (go_at_call 9; refine (wakes_any _ HTB.out).mono ?_; rintro e w' ⟨rfl, bw⟩; replace bw := Lib.hid bw)
          go_ret
          exact ⟨rfl, below_chain hb.out bw.out⟩

theorem contract (H : Type) (enc : TypeId × Value → H) (W : World) (base : Nat) (args : Array Value) (ds gs : List (DataW H)) (before : List MemPlace)
    (hval0 : ∀ (j : Nat) t v, Tryd.f7.params[j]? = some t → args[j]? = some v → Value.okWide Tryd.prog W .any base t v)
    (hW : DataW.Whole enc Tryd.prog Tryd.f7.params.toList Rows.lexQuotesSpec.vars false W args.toList ds gs before)
    (T : LxTab W) :
    Calls Tryd.prog 7 args W fun e W' => ∃ v, e = .returned v ∧ Rows.lexQuotesSpec.post enc Tryd.prog Tryd.f7 false true false false W args v W' := by
  have hW' := hW
  have hval := hval0
  obtain ⟨p, q, hA0, hV, rfl, hfz, hnd⟩ := hW
  have hA : DataW.TrodAll enc Tryd.prog W 0 (fun _ => true) true Tryd.f7.params.toList args.toList ds p := hA0
  rw [Tryd.params7] at hA hval
  obtain ⟨rfl, rfl⟩ := trodVars_none hV
  obtain ⟨v0, vs0, d0, ds0, p0, q0, hargs, rfl, rfl, h0, r0⟩ := trodAll_cons hA
  obtain ⟨rfl, rfl, rfl⟩ := trodAll_nil r0
  obtain rfl : args = #[v0] := by cases args; simp_all
  obtain ⟨s0, rfl, rfl, rfl, w0⟩ := ChangeMaps.open_string Tryd.underlying9 (hval 0 9 v0 rfl rfl) h0
  refine (walk s0 w0 W T).mono fun e W' ⟨he, hb⟩ => ?_
  subst he
  exact ⟨_, rfl, law_post laidOut (by kernel_rfl) rfl (by kernel_rfl) Tryd.underlying4 hW' rfl rfl rfl hb⟩

theorem door_met (os : Os) (args : Array Value) : laidMetH Tryd.prog Rows.lexQuotesRow.laid ((World.doorLaid Tryd.prog 300 os).forCall (fun _ _ => 0) ⟨#[], args, []⟩).memory :=
  laidMetH_of_parts3 (fuel := 8) (laidMet_of_run' 8 (by kernel_rfl) (by kernel_rfl)) (by kernel_rfl) (by kernel_rfl)

set_option maxRecDepth 100000 in
theorem lifted (os : Os) (started : os.Started) (H : Type) (enc : TypeId × Value → H) :
    ReturnsInHanded {} Tryd.checked os 7 .any (fun w args => (Rows.lexQuotesSpec.pre enc Tryd.prog Tryd.f7 [] false w args ∧ laidMetH Tryd.prog Rows.lexQuotesRow.laid w) ∧ sizedMet enc Tryd.prog Tryd.f7 (OpenSpec.ofChange Rows.lexQuotesSpec) false w args)
      (Rows.lexQuotesSpec.post enc Tryd.prog Tryd.f7 false true false false) := by
  refine returnsInHanded_of_change_and (C := Tryd.checked) (X := fun w _ => laidMetH Tryd.prog Rows.lexQuotesRow.laid w) (fun _ _ _ hh h => h.of_heap hh) own started (by kernel_rfl) Tryd.func7
    (ChangeSpec.witness_shaped (enc := enc) (C := Tryd.checked) (os := os) (X := fun w _ => laidMetH Tryd.prog Rows.lexQuotesRow.laid w) false (World.doorLaid Tryd.prog 300 os) #[.string ⟨#[]⟩] 8 rfl (World.shaped_of_RefB (by kernel_rfl) (by kernel_rfl)) (by kernel_rfl) (by kernel_rfl) (by kernel_rfl) (door_met os _)) ?_
  intro W base args ds gs before hval hW _ hz hL _
  exact contract H enc W base args ds gs before hval hW (lxtab_of hL)

theorem over : Rows.lexQuotesRow.holds Tryd.pinned (OpenSpec.ofChange Rows.lexQuotesSpec) :=
  OpenClaim.holds_of_wide 7 Tryd.f7 rfl rfl rfl rfl rfl rfl rfl ⟨rfl, rfl, rfl, rfl, rfl⟩ rfl rfl rfl rfl rfl (by kernel_rfl) Tryd.func7 (by kernel_rfl)
    (of_decide_eq_true (by kernel_rfl)) (by unfold Func.isWrapper; first | (rw [if_pos (by decide +kernel)]; kernel_rfl) | (rw [if_neg (by decide +kernel)]; exact ⟨rfl, rfl⟩))
    (fun os started H enc _ => lifted os started H enc)

theorem proved : Rows.LexQuotesCardSaid :=
  Claim7.holds_tied_plain_at .later [] [.data, .data, .data, .sentinel, .sentinel, .data, .data] true _ true
    over (fun _ h => by cases h) (by kernel_rfl) (fun _ h => by cases h) lexQuotes_row_tie rfl ⟨rfl, rfl⟩ (by kernel_rfl) rfl
    (fun f fn hf hfn => by
      obtain rfl : f = 7 := Option.some.inj ((show Tryd.prog.funcNamed "stockpot/stockpotlaw14.LexQuotes" = some 7 by kernel_rfl).symm.trans hf) |>.symm
      obtain rfl : fn = Tryd.f7 := (Option.some.inj (Tryd.func7.symm.trans hfn)).symm
      exact ⟨by kernel_rfl, fun j t ht => by
        have hall : (Tryd.f7.params.toList.all fun u => !Tryd.prog.wantsStandIn u) = true := by kernel_rfl
        exact (show Tryd.prog.wantsStandIn t = false by simpa using List.all_eq_true.1 hall t (by simpa using Array.mem_of_getElem? ht))⟩)
    (by kernel_rfl)
#print axioms proved
end Go.Proofs.YtlidegofnkmenaaDoor.lexQuotes
