/-
  For every slice of sizes and every slice of steps the law ArenaApart returns true, and its arguments read as they did. Conditions: none.
-/
import Derived.Test.YthpkobogphegjaaWakesB
import Derived.Test.YthpkobogphegjaaArgs
import Derived.Test.YthpkobogphegjaaStill
namespace Go.Proofs.Ythpkobogphegjaa.arenaApart
open Go.ChangeShapes Go.WideShapes Go.ChangeAt Go.RowKit
set_option linter.unusedVariables false

theorem own : ownKnob Try.prog.godebug = none := by kernel_rfl
theorem laidOut : laidOutB Try.prog = true := by kernel_rfl

theorem Chain.apart {hi : Nat} : ∀ {rs : List (Nat × Nat)} {lo : Nat}, Chain lo rs hi → ∀ (i j : Nat) (hi' : i < rs.length) (hj : j < rs.length), i < j → rs[i].1 + rs[i].2 ≤ rs[j].1
  | [], _, _, i, _, h, _, _ => by simp at h
  | r :: rs, lo, ⟨h1, h2, h3⟩, i, 0, _, _, hij => by omega
  | r :: rs, lo, ⟨h1, h2, h3⟩, 0, j + 1, _, hj, _ => by
    have := (Chain.get h3 j (by simpa using hj)).1
    simpa using this
  | r :: rs, lo, ⟨h1, h2, h3⟩, i + 1, j + 1, hi', hj, hij => by
    have := Chain.apart h3 i j (by simpa using hi') (by simpa using hj) (by omega)
    simpa using this

theorem cutAt_of {A : Ar} {k : Int} (hh : A.has k = true) : A.cutAt k = A.at k := by simp [Ar.cutAt, hh]
theorem cut_there {A : Ar} (h : A.Ok) {k : Int} (hh : A.has k = true) : (A.cut k).there (A.cutAt k) = true := by
  have := (h.cutted hh).2.2 (A.at k)
  simp only [Ar.cut, hh, if_true, Ar.cutAt, Ar.there, this, if_true]
  rfl
theorem cut_length (A : Ar) (k : Int) : (A.cut k).ws.length = A.ws.length := by
  unfold Ar.cut
  split
  · rename_i hh; exact Ar.length_cutted hh
  · rfl
theorem cut_region {A : Ar} (h : A.Ok) {m : Nat} (hh : A.has (m : Int) = true) : (A.cut m).region (A.cutAt m) = List.replicate m 0 := by
  have h1 : 1 ≤ (m : Int) ∧ (m : Int) ≤ (A.ws.length : Int) - (A.at m : Int) := by simpa [Ar.has] using hh
  have hf := (h.cutted hh).2.2 (A.at (m : Int))
  rw [if_pos rfl] at hf
  have e : A.cut (m : Int) = A.cutted m := by simp [Ar.cut, hh]
  have ea : A.cutAt (m : Int) = A.at (m : Int) := by simp [Ar.cutAt, hh]
  rw [e, ea]
  unfold Ar.region
  rw [hf]
  simp only [Ar.cutted, Int.toNat_natCast]
  have hl : (A.ws.take (A.at (m : Int))).length = A.at (m : Int) := by simp; omega
  rw [List.append_assoc, List.drop_append_of_le_length (by omega), List.drop_eq_nil_of_le (by omega), List.nil_append, List.take_append_of_le_length (by simp), List.take_of_length_le (by simp)]

theorem cut_some {A : Ar} (h : A.Ok) {m : Nat} (h1 : 1 ≤ m) (hm : m ≤ A.ws.length) : 0 < (A.cut m).rs.length := by
  unfold Ar.cut
  split
  · simp [Ar.cutted]
    omega
  · rename_i hh
    by_cases h0 : A.rs = []
    · exfalso
      apply hh
      have : A.at (m : Int) = 0 := by simp [Ar.at, h0, roomAt]
      simp only [Ar.has, this, decide_eq_true_eq]
      omega
    · exact List.length_pos_iff.2 h0

theorem region_set {A : Ar} (h : A.Ok) (i j : Nat) (hi : i < A.rs.length) (hj : j < A.rs.length) (hne : j ≠ i) (a x : Int) : (A.set A.rs[i].1 a x).region A.rs[j].1 = A.region A.rs[j].1 := by
  obtain ⟨_, _, _, f1⟩ := h.chain.get i hi
  obtain ⟨_, _, _, f2⟩ := h.chain.get j hj
  have e1 : A.find (A.rs[i].1 : Int) = some A.rs[i].2 := f1
  have e2 : A.find (A.rs[j].1 : Int) = some A.rs[j].2 := f2
  unfold Ar.region
  rw [Ar.find_set, e2]
  simp only
  unfold Ar.set
  by_cases hb : A.inB (A.rs[i].1 : Int) a = true
  · rw [if_pos hb]
    have hb' : 0 ≤ a ∧ a < A.rs[i].2 := by simpa [Ar.inB, e1] using hb
    have hd : A.rs[j].1 + A.rs[j].2 ≤ A.rs[i].1 ∨ A.rs[i].1 + A.rs[i].2 ≤ A.rs[j].1 := by
      rcases Nat.lt_or_gt_of_ne hne with h1 | h1
      · exact .inl (Chain.apart h.chain j i hj hi h1)
      · exact .inr (Chain.apart h.chain i j hi hj h1)
    simp only [Int.toNat_natCast]
    rcases hd with hd | hd
    · rw [List.take_drop, List.take_drop, List.take_set_of_le (by omega)]
    · rw [List.drop_set_of_lt (by omega)]
  · rw [if_neg hb]

theorem wf_small {x : Int} (h1 : 0 ≤ x) (h2 : x ≤ 1000000) : (Lit.int .u64 x).wf = true := by go_wf

theorem owns_types {w : World} {B B' : Nat} {e e' : TypeId} {s s' : Nat} {v v' : Value} {n n' : Nat} {xs xs' : List Value} (h : w.ownsRow B e s v n xs) (h' : w.ownsRow B' e' s' v' n' xs') (hne : e ≠ e') : v.ownBlock = none ∨ v.ownBlock ≠ v'.ownBlock := by
  rcases owns_parts h with ⟨rfl, _⟩ | ⟨g, cap, rest, rfl, _, hr, _⟩
  · exact .inl rfl
  · right
    rcases owns_parts h' with ⟨rfl, _⟩ | ⟨g', cap', rest', rfl, _, hr', _⟩
    · intro e; cases e
    · intro e
      have e2 : g = g' := by simpa [Value.ownBlock] using e
      subst e2
      unfold rowAt at hr hr'
      rw [hr] at hr'
      injection hr' with h1
      injection h1 with h2 h3
      exact hne h3

theorem keepMod_any {w : World} (x : Int) {n : Nat} (h1 : 1 ≤ n) (h2 : n ≤ 1000) (hx1 : -9223372036854775808 ≤ x) (hx2 : x ≤ 9223372036854775807) :
    Calls Try.prog 25 #[.int .i64 x, .int .i64 n] w fun e w' => ∃ m : Nat, m < n ∧ e = .returned (.int .i64 m) ∧ w = w' := by
  have b1 : -(n : Int) < x.tmod n := Int.lt_tmod_of_pos x (by omega)
  have b2 : x.tmod n < n := Int.tmod_lt_of_pos x (by omega)
  have b3 : 0 ≤ x.tmod n + n := by omega
  have h1' : 1 ≤ (n : Int) := by omega
  have hm : ∃ m : Nat, m < n ∧ (x.tmod n + n) % n = m := ⟨((x.tmod n + n) % n).toNat, by have := Int.emod_lt_of_pos (x.tmod n + n) (show (0 : Int) < n by omega); have := Int.emod_nonneg (x.tmod n + n) (show (n : Int) ≠ 0 by omega); omega, by have := Int.emod_nonneg (x.tmod n + n) (show (n : Int) ≠ 0 by omega); omega⟩
  have HM := Lib.hid hm
  clear hm
  go_enter Try.func25, Try.ntmps25
  go_wp2
  go_ret
  obtain ⟨m, hm, e⟩ := HM.out
  exact ⟨m, hm, ret_int e, rfl⟩

set_option maxHeartbeats 8000000 in
set_option maxRecDepth 100000 in
theorem walk (v0 : Value) (xs0 : List Int) (v1 : Value) (n1 : Nat) (f1 : Nat → Nat → Int) (w : World) (hr : readsAt w v0 xs0.length (xs0.map (Value.int .u8))) (hx : ∀ x ∈ xs0, (Lit.int .u8 x).wf = true) (hm : xs0.length ≤ maxLen)
    (hr1 : structsAt w v1 n1 [.i64, .i64, .i64, .u64] f1) (hm1 : n1 ≤ maxLen) :
    Calls Try.prog 4 #[v0, v1] w fun e w' => e = .returned (.bool true) ∧ Below w.heap.size w w' := by
  unfold maxLen at hm hm1
  obtain ⟨a, c, rfl, ha⟩ := hr
  obtain ⟨a1, c1, rfl, hwf1, ha1⟩ := hr1
  by_cases hn : 12 < xs0.length ∨ 40 < n1
  · clear ha ha1 hx hwf1
    generalize xs0.length = n at *
    rcases hn with hn | hn
    · go_enter Try.func4, Try.ntmps4
      go_wp2_with fail
      refine (new_h (n := 500) (by decide) (by decide)).mono ?_
      rintro e w1 ⟨p, F1, rfl, h1, s1⟩
      go_wp2_with fail
      refine (wakes_any _).mono ?_
      rintro e w2 ⟨rfl, b2⟩
      go_wp2
      go_ret
      exact ⟨rfl, below_chain s1.below b2⟩
    · by_cases hn2 : 12 < n
      all_goals
        go_enter Try.func4, Try.ntmps4
        go_wp2_with fail
        refine (new_h (n := 500) (by decide) (by decide)).mono ?_
        rintro e w1 ⟨p, F1, rfl, h1, s1⟩
        go_wp2_with fail
        refine (wakes_any _).mono ?_
        rintro e w2 ⟨rfl, b2⟩
        go_wp2
        go_ret
        exact ⟨rfl, below_chain s1.below b2⟩
  · have hn12 : xs0.length ≤ 12 := by omega
    have hn40 : n1 ≤ 40 := by omega
    have HA : Hid (xs0.length = 0 ∨ ∃ b o, a = some ⟨b, o, none⟩ ∧ b < w.heap.size ∧ ∀ j u, (xs0.map (Value.int .u8))[j]? = some u → w.cell? ⟨b, o + j, none⟩ = some u) := by
      rcases ha with h | ⟨b, o, rfl, h⟩
      · exact .inl h
      · by_cases h0 : xs0.length = 0
        · exact .inl h0
        · exact .inr ⟨b, o, rfl, World.block_lt_of_cell? w ⟨b, o + 0, none⟩ (h 0 (.int .u8 (xs0[0]'(by omega))) (by simp)), h⟩
    have HX : Hid (∀ x ∈ xs0, (Lit.int .u8 x).wf = true) := hx
    have HA1 := Lib.hid ha1
    have HW1 := Lib.hid hwf1
    clear ha hx hn ha1 hwf1
    go_enter Try.func4, Try.ntmps4
    go_wp2_with fail
    refine (new_h (n := 500) (by decide) (by decide)).mono ?_
    rintro e w1 ⟨p, F1, rfl, h1, s1⟩
    go_wp2
    go_loopw [7] (fun i wr => ∃ (k : Nat) (A : Ar) (F : Nat → Prop), k ≤ xs0.length ∧ i = .int .i64 k ∧ Hid (Held wr p F A ∧ A.ws.length = 500) ∧ Step (fun _ => False) F w wr) (fun i _ => xs0.length - (intOf i).toNat)
    case atStart => exact ⟨0, _, _, Nat.zero_le _, rfl, ⟨h1, rfl⟩, s1⟩
    case round =>
      clear h1 s1
      obtain ⟨k, A, F, hk, rfl, HH, s3⟩ := hrel
      by_cases hlt : k < xs0.length
      · rcases HA.out with h0 | ⟨b, o, rfl, hbl, hc⟩
        · omega
        have e1 : wr.cell? ⟨b, o + k, none⟩ = some (.int .u8 xs0[k]) := (s3.below.cell (p := ⟨b, o + k, none⟩) hbl).trans (hc k _ (by simp [hlt]))
        obtain ⟨y1, y2⟩ := bounds_u8 (HX.out _ (List.getElem_mem hlt))
        clear hc
        obtain ⟨m, hmm⟩ := Int.eq_ofNat_of_zero_le (a := 1 + xs0[k] % 50 * 0 + xs0[k] % 60) (by omega)
        have hmm' : 1 + xs0[k] % 60 = (m : Int) := by omega
        have hm1 : 1 ≤ m := by omega
        have hm60 : m ≤ 60 := by omega
        clear hmm
        go_wp2_with fail
        clear hmm'
        refine (cut_h HH.out.1 (m : Int) (by omega)).mono ?_
        rintro e w4 ⟨rfl, G, h4, s4⟩
        have hok := HH.out.1.ok
        have hl4 : (A.cut (m : Int)).ws.length = 500 := by rw [cut_length]; exact HH.out.2
        have hr4 : 0 < (A.cut (m : Int)).rs.length := cut_some hok hm1 (by rw [HH.out.2]; omega)
        have s5 := s3.chain s4
        cases hh : A.has (m : Int) with
        | false =>
          have HH4 : Hid (Held w4 p G (A.cut (m : Int)) ∧ (A.cut (m : Int)).ws.length = 500) := ⟨h4, hl4⟩
          have hok4 := h4.ok
          generalize A.cut (m : Int) = A4 at *
          clear hh h4 hl4 s4 s3 e1 hok HH
          by_cases h3 : k % 4 = 3
          · have d3 : ((k : Int) % 4 == 3) = true := by rw [beq_iff_eq]; omega
            have d4 : ((A4.rs.length : Int) == 0) = false := by rw [beq_eq_false_iff_ne]; omega
            obtain ⟨m7, hm7⟩ : ∃ m7, m7 = k % A4.rs.length := ⟨_, rfl⟩
            have hm7l : m7 < A4.rs.length := by rw [hm7]; exact Nat.mod_lt _ hr4
            have hmod : (k : Int) % (A4.rs.length : Int) = (m7 : Int) := by rw [hm7]; omega
            clear h3 hm7
            go_wp2_with fail
            refine (regions_h HH4.out.1).mono ?_
            rintro e w7 ⟨v7, rfl, o7, b7⟩
            have h7 := HH4.out.1.below b7
            have s7 := s5.chain (Step.of_below b7)
            obtain ⟨a7, c7, rfl, ha7⟩ := readsAt.of_owns o7
            obtain ⟨b8, o8, rfl, hc7⟩ := ha7.resolve_left (by omega)
            have e7 : w7.cell? ⟨b8, o8 + m7 * 2, none⟩ = some (.int .i64 (A4.rs[m7].1 : Int)) := by
              have q1 := (pairsL_get (pairI A4.rs) m7 (by simpa [pairI] using hm7l)).1
              rw [← pairs_pairI] at q1
              have := hc7 _ _ q1
              simpa [pairI] using this
            have hth : A4.there (A4.rs[m7].1 : Int) = true := by
              have := (hok4.chain.get m7 hm7l).2.2.2
              simp [Ar.there, Ar.find, this]
            have HTH := Lib.hid hth
            have HL7 : Hid (A4.ws.length = 500) := HH4.out.2
            clear hth o7 b7 hc7 ha7 s5 HH4
            go_wp2_with fail
            refine (free_h h7 (A4.rs[m7].1 : Int)).mono ?_
            rintro e w8 ⟨rfl, h8, s8⟩
            rw [HTH.out]
            have HH8 : Hid (Held w8 p G (A4.free (A4.rs[m7].1 : Int)) ∧ (A4.free (A4.rs[m7].1 : Int)).ws.length = 500) := ⟨h8, HL7.out⟩
            have s9 := s7.chain s8
            clear h7 h8 s7 s8 e7 hmod
            go_wp2
            go_roundw
            case rel => exact ⟨k + 1, _, _, by omega, by go_num, HH8.out, s9⟩
            case measure => simp [intOf]; omega
          · have d3 : ((k : Int) % 4 == 3) = false := by rw [beq_eq_false_iff_ne]; omega
            clear h3
            go_wp2
            go_roundw
            case rel => exact ⟨k + 1, _, _, by omega, by go_num, HH4.out, s5⟩
            case measure => simp [intOf]; omega

        | true =>
          have ht := cut_there hok hh
          have hreg := cut_region hok hh
          have hfd : (A.cut (m : Int)).find (A.cutAt (m : Int)) = some m := by
            have := (hok.cutted hh).2.2 (A.at (m : Int))
            rw [if_pos rfl] at this
            simpa [Ar.cut, hh, Ar.cutAt] using this
          have HT := Lib.hid ht
          have HREG := Lib.hid hreg
          have HFD := Lib.hid hfd
          clear hh ht hreg hfd e1 s3 s4
          go_wp2_with fail
          refine (words_h h4 (A.cutAt (m : Int))).mono ?_
          rintro e w5 ⟨v5, rfl, o5, b5⟩
          rw [HREG.out, List.length_replicate] at o5
          rw [HT.out]
          have h5 := h4.below b5
          have s6 := s5.chain (Step.of_below b5)
          have hF5 : ∀ g, G g → g < w4.heap.size := h4.lt
          rcases owns_parts o5 with ⟨_, h0, _⟩ | ⟨g5, cap5, rest5, rfl, hg5, r5, _⟩
          · omega
          have HH5 : Hid (Held w5 p G (A.cut (m : Int))) := h5
          have R5 := Lib.hid r5
          generalize A.cut (m : Int) = A4 at *
          generalize A.cutAt (m : Int) = at4 at *
          clear h4 h5 o5 b5 s5 r5 hok HH HT HREG
          obtain ⟨wo, rfl⟩ : ∃ wo : World, wo = wr := ⟨_, rfl⟩
          go_wp2
          go_loopw [13] (fun i wr => ∃ (j : Nat) (A5 : Ar), j ≤ m ∧ i = .int .i64 j ∧ Hid (Held wr p G A5 ∧ A5.rs = A4.rs ∧ A5.ws.length = 500) ∧ Hid (rowAt wr g5 29 (words (List.replicate m 0) ++ rest5)) ∧ Step (fun _ => False) G w wr) (fun i _ => m - (intOf i).toNat)
          case atStart => exact ⟨0, A4, Nat.zero_le _, rfl, ⟨HH5.out, rfl, hl4⟩, R5.out, s6⟩
          case round =>
            clear s6 HH5 R5
            obtain ⟨j, A5, hj, rfl, H5, R5, s6⟩ := hrel
            by_cases hlt5 : j < m
            · have e1 : wr.cell? ⟨g5, j, none⟩ = some (.int .u64 0) := by
                rw [R5.out.cell, List.getElem?_append_left (by simpa using hlt5)]
                simp [hlt5]
              have hin : A5.inB at4 j = true := by
                have : A5.find at4 = some m := by
                  have h := HFD.out
                  unfold Ar.find at h ⊢
                  rw [H5.out.2.1]
                  exact h
                simp [Ar.inB, this]
                omega
              have HIN := Lib.hid hin
              clear hin
              go_wp2_with fail
              refine (set_h H5.out.1 at4 j (k + 1) (wf_small (by omega) (by omega))).mono ?_
              rintro e w6 ⟨rfl, h6, s7⟩
              rw [HIN.out]
              have H6 : Hid (Held w6 p G (A5.set at4 j (k + 1)) ∧ (A5.set at4 j (k + 1)).rs = A4.rs ∧ (A5.set at4 j (k + 1)).ws.length = 500) := ⟨h6, by rw [Ar.rs_set]; exact H5.out.2.1, by unfold Ar.set; split <;> simp [H5.out.2.2]⟩
              have R6 := Lib.hid (R5.out.upon s7.upon fun hg => by have := hF5 _ hg; omega)
              have s8 := s6.chain s7
              clear h6 s6 s7 H5 R5 e1
              go_wp2
              go_roundw
              case rel => exact ⟨j + 1, _, by omega, by go_num, H6.out, R6.out, s8⟩
              case measure => simp [intOf]; omega
            · have HH4 : Hid (Held wr p G A5 ∧ A5.ws.length = 500) := ⟨H5.out.1, H5.out.2.2⟩
              have hok4 := H5.out.1.ok
              have hr4 : 0 < A5.rs.length := by rw [H5.out.2.1]; exact hr4
              have s5 := s6
              clear s6 HFD
              by_cases h3 : k % 4 = 3
              · have d3 : ((k : Int) % 4 == 3) = true := by rw [beq_iff_eq]; omega
                have d4 : ((A5.rs.length : Int) == 0) = false := by rw [beq_eq_false_iff_ne]; omega
                obtain ⟨m7, hm7⟩ : ∃ m7, m7 = k % A5.rs.length := ⟨_, rfl⟩
                have hm7l : m7 < A5.rs.length := by rw [hm7]; exact Nat.mod_lt _ hr4
                have hmod : (k : Int) % (A5.rs.length : Int) = (m7 : Int) := by rw [hm7]; omega
                clear h3 hm7
                go_wp2_with fail
                refine (regions_h HH4.out.1).mono ?_
                rintro e w7 ⟨v7, rfl, o7, b7⟩
                have h7 := HH4.out.1.below b7
                have s7 := s5.chain (Step.of_below b7)
                obtain ⟨a7, c7, rfl, ha7⟩ := readsAt.of_owns o7
                obtain ⟨b8, o8, rfl, hc7⟩ := ha7.resolve_left (by omega)
                have e7 : w7.cell? ⟨b8, o8 + m7 * 2, none⟩ = some (.int .i64 (A5.rs[m7].1 : Int)) := by
                  have q1 := (pairsL_get (pairI A5.rs) m7 (by simpa [pairI] using hm7l)).1
                  rw [← pairs_pairI] at q1
                  have := hc7 _ _ q1
                  simpa [pairI] using this
                have hth : A5.there (A5.rs[m7].1 : Int) = true := by
                  have := (hok4.chain.get m7 hm7l).2.2.2
                  simp [Ar.there, Ar.find, this]
                have HTH := Lib.hid hth
                have HL7 : Hid (A5.ws.length = 500) := HH4.out.2
                clear hth o7 b7 hc7 ha7 s5 HH4
                go_wp2_with fail
                refine (free_h h7 (A5.rs[m7].1 : Int)).mono ?_
                rintro e w8 ⟨rfl, h8, s8⟩
                rw [HTH.out]
                have HH8 : Hid (Held w8 p G (A5.free (A5.rs[m7].1 : Int)) ∧ (A5.free (A5.rs[m7].1 : Int)).ws.length = 500) := ⟨h8, HL7.out⟩
                have s9 := s7.chain s8
                clear h7 h8 s7 s8 e7 hmod
                go_wp2
                go_roundw
                case rel => exact ⟨k + 1, _, _, by omega, by go_num, HH8.out, s9⟩
                case measure => simp [intOf]; omega
              · have d3 : ((k : Int) % 4 == 3) = false := by rw [beq_eq_false_iff_ne]; omega
                clear h3
                go_wp2
                go_roundw
                case rel => exact ⟨k + 1, _, _, by omega, by go_num, HH4.out, s5⟩
                case measure => simp [intOf]; omega
      · obtain ⟨h3, hl3⟩ := HH.out
        clear HA HX HH
        go_wp2_with fail
        refine (regions_h h3).mono ?_
        rintro e w4 ⟨v2, rfl, o4, b4⟩
        have h4 := h3.below b4
        have s4 := s3.chain (Step.of_below b4)
        have hok := h3.ok
        have hlen := hok.chain.len
        have hL : A.rs.length ≤ 500 := by omega
        by_cases hL0 : A.rs.length = 0
        · rw [hL0] at o4
          obtain ⟨a2, c2, rfl⟩ := owns_slice o4
          have b4' := s4.below
          clear h3 h4 o4 b4 s3 s4 hL0 hL hlen
          go_wp2
          refine wp_loop_rounds 1 ?_
          rw [rounds_succ]
          go_wp2_with fail
          refine (wakes_any _).mono ?_
          rintro e w5 ⟨rfl, b5⟩
          go_wp2
          go_ret
          exact ⟨rfl, below_chain b4' b5⟩
        · rcases owns_parts o4 with ⟨_, h0, _⟩ | ⟨g2, cap2, rest2, rfl, hg2, r2, _⟩
          · omega
          have hF4 : ∀ g, F g → g < wr.heap.size := h3.lt
          have d0 : ((A.rs.length : Int) == 0) = false := by rw [beq_eq_false_iff_ne]; omega
          have hg2l : g2 < w4.heap.size := r2.lt
          have hcell : ∀ wr, rowAt wr g2 55 (pairs A.rs ++ rest2) → ∀ j, (hj : j < A.rs.length) → wr.cell? ⟨g2, j * 2, none⟩ = some (.int .i64 (A.rs[j].1 : Int)) ∧ wr.cell? ⟨g2, j * 2 + 1, none⟩ = some (.int .i64 (A.rs[j].2 : Int)) := by
            intro wr hrw j hj
            have hp := length_pairs A.rs
            obtain ⟨q1, q2⟩ := pairsL_get (pairI A.rs) j (by simpa [pairI] using hj)
            rw [← pairs_pairI] at q1 q2
            rw [hrw.cell, hrw.cell, List.getElem?_append_left (by omega), List.getElem?_append_left (by omega), q1, q2]
            simp [pairI]
          have HCELL : Hid (∀ wr, rowAt wr g2 55 (pairs A.rs ++ rest2) → ∀ j, (hj : j < A.rs.length) → wr.cell? ⟨g2, j * 2, none⟩ = some (.int .i64 (A.rs[j].1 : Int)) ∧ wr.cell? ⟨g2, j * 2 + 1, none⟩ = some (.int .i64 (A.rs[j].2 : Int))) := hcell
          have R2 := Lib.hid r2
          have H4 := Lib.hid h4
          have S4 := Lib.hid s4
          have HL := Lib.hid hl3
          clear hcell r2 h4 s4 h3 s3 b4 o4 hl3 hlen
          obtain ⟨wo, rfl⟩ : ∃ wo : World, wo = wr := ⟨_, rfl⟩
          go_wp2
          go_loopw [16] (fun i wr => ∃ (j q : Nat), j ≤ A.rs.length ∧ i = .int .i64 j ∧ wr = w4.drewN q) (fun i _ => A.rs.length - (intOf i).toNat)
          case atStart => exact ⟨0, 0, Nat.zero_le _, rfl, rfl⟩
          case round =>
            obtain ⟨j, q, hj, rfl, rfl⟩ := hrel
            by_cases hlt2 : j < A.rs.length
            · obtain ⟨e1, e2⟩ := HCELL.out w4 R2.out j hlt2
              obtain ⟨z1, z2, z3, z4⟩ := hok.chain.get j hlt2
              have z5 : A.rs[j].1 + A.rs[j].2 ≤ 500 := by have := HL.out; omega
              clear z4
              have t1 : decide ((A.rs[j].1 : Int) < 0) = false := decide_eq_false (by omega)
              have t2 : decide ((A.rs[j].2 : Int) < 1) = false := decide_eq_false (by omega)
              have t2' : ¬ A.rs[j].2 = 0 := by omega
              have w4' : IntKind.i64.wrap ((A.rs[j].1 : Int) + A.rs[j].2) = (A.rs[j].1 : Int) + A.rs[j].2 := IntWalk.i64_in _ (by omega)
              have t3 : decide ((500 : Int) < (A.rs[j].1 : Int) + A.rs[j].2) = false := decide_eq_false (by omega)
              by_cases hj0 : j = 0
              · have t4 : decide (0 < (j : Int)) = false := decide_eq_false (by omega)
                have t4' : ¬ 0 < j := by omega
                clear hj0
                go_wp2
                go_quiet (fail)
                go_wp2
                go_roundw
                case rel => exact ⟨j + 1, _, by omega, by go_num, rfl⟩
                case measure => simp [intOf]; omega
              · obtain ⟨jm, hjm⟩ : ∃ jm, jm + 1 = j := ⟨j - 1, by omega⟩
                have hjml : jm < A.rs.length := by omega
                obtain ⟨e3, e4⟩ := HCELL.out w4 R2.out jm hjml
                have z6 := Chain.apart hok.chain jm j hjml hlt2 (by omega)
                have y3 := (hok.chain.get jm hjml).2.2.1
                have t4 : decide (0 < (j : Int)) = true := decide_eq_true (by omega)
                have t4' : 0 < j := by omega
                have w1' : (jm : Int) < A.rs.length := by omega
                have w2 : IntKind.i64.wrap ((j : Int) - 1) = (jm : Int) := by rw [IntWalk.i64_in _ (by omega)]; omega
                have w3 : IntKind.i64.wrap ((A.rs[jm].1 : Int) + A.rs[jm].2) = (A.rs[jm].1 : Int) + A.rs[jm].2 := IntWalk.i64_in _ (by omega)
                have t5 : decide ((A.rs[j].1 : Int) < (A.rs[jm].1 : Int) + A.rs[jm].2) = false := decide_eq_false (by omega)
                have HJM := Lib.hid hjm
                clear hjm hj0
                go_wp2
                go_quiet (fail)
                go_wp2
                go_roundw
                case rel => exact ⟨j + 1, _, by omega, by go_num, rfl⟩
                case measure => simp [intOf]; omega
            · have h5 : Held (w4.drewN q) p F A := H4.out.upon (Upon.drewN (fun _ => False) w4 q) fun _ _ h => h
              have s5 : Step (fun _ => False) F w (w4.drewN q) := S4.out.chain (Step.of_below (below_draws (Below.refl _ _) q))
              have r5 : rowAt (w4.drewN q) g2 55 (pairs A.rs ++ rest2) := R2.out
              have hF5 : ∀ g, F g → g ≠ g2 := fun g hg => by have := hF4 g hg; omega
              have HH5 : Hid (Held (w4.drewN q) p F A ∧ A.rs = A.rs ∧ A.ws.length = 500) := ⟨h5, rfl, HL.out⟩
              have RR5 := Lib.hid r5
              clear h5 r5 H4 S4 R2 HL hF4
              go_wp2
              go_loopw [17] (fun i wr => ∃ (k2 : Nat) (A2 : Ar), k2 ≤ n1 ∧ i = .int .i64 k2 ∧ Hid (Held wr p F A2 ∧ A2.rs = A.rs ∧ A2.ws.length = 500) ∧ Hid (rowAt wr g2 55 (pairs A.rs ++ rest2)) ∧ Step (fun _ => False) F w wr) (fun i _ => n1 - (intOf i).toNat)
              case atStart => exact ⟨0, A, Nat.zero_le _, rfl, ⟨HH5.out.1, rfl, HH5.out.2.2⟩, RR5.out, s5⟩
              case round =>
                clear s5 HH5 RR5
                obtain ⟨k2, A2, hk2, rfl, H6, R6, s6⟩ := hrel
                by_cases hlt6 : k2 < n1
                · rcases HA1.out with h0 | ⟨b3, o3, rfl, hc3⟩
                  · omega
                  have q0 := hc3 k2 0 .i64 hlt6 rfl
                  have q1 := hc3 k2 1 .i64 hlt6 rfl
                  have q2 := hc3 k2 2 .i64 hlt6 rfl
                  have q3 := hc3 k2 3 .u64 hlt6 rfl
                  have hb3 : b3 < w.heap.size := World.block_lt_of_cell? w _ q0
                  simp only [List.length_cons, List.length_nil, Nat.zero_add, ← Nat.add_assoc] at q0 q1 q2 q3
                  obtain ⟨x1, x2⟩ := bounds_i64 (HW1.out k2 1 .i64 hlt6 rfl)
                  have hwx := HW1.out k2 3 .u64 hlt6 rfl
                  have HWX := Lib.hid hwx
                  have p1 : wr.cell? ⟨b3, o3 + k2 * 4 + 1, none⟩ = some (.int .i64 (f1 k2 1)) := (s6.below.cell (p := ⟨b3, o3 + k2 * 4 + 1, none⟩) hb3).trans q1
                  have Q2 := Lib.hid q2
                  have Q3 := Lib.hid q3
                  clear q0 q1 q2 q3 hc3 hwx
                  have hL1 : 1 ≤ A.rs.length := by omega
                  have hL2 : A.rs.length ≤ 1000 := by omega
                  go_wp2_with fail
                  refine (keepMod_any (f1 k2 1) hL1 hL2 x1 x2).mono ?_
                  rintro e w' ⟨m2, hm2, rfl, rfl⟩
                  have hF6 : ∀ g, F g → g < wr.heap.size := H6.out.1.lt
                  have hg2l6 : g2 < wr.heap.size := R6.out.lt
                  have hok2 := H6.out.1.ok
                  have hlen2 : A2.rs.length = A.rs.length := by rw [H6.out.2.1]
                  obtain ⟨i42, hi42, hz42, hs42, hb42⟩ := info_parts (show (Try.prog.info? 42).map (fun i => (i.zero, i.size, i.bytes)) = some (some (.slice none 0 0), 1, 24) by kernel_rfl)
                  have HLEN2 := Lib.hid hlen2
                  clear hlen2
                  obtain ⟨wo2, rfl⟩ : ∃ wo2 : World, wo2 = wr := ⟨_, rfl⟩
                  go_wp2
                  go_loopw [19, 20] (fun was i wr => ∃ (j2 : Nat) (vs : List Value), j2 ≤ A.rs.length ∧ i = .int .i64 j2 ∧ Hid (wr.ownsRow wo2.heap.size 42 1 was j2 vs) ∧ Hid (∀ t (h : t < vs.length) (h2 : t < A.rs.length), wr.ownsRow wo2.heap.size 29 1 vs[t] (A2.region A.rs[t].1).length (words (A2.region A.rs[t].1))) ∧ Below wo2.heap.size wo2 wr) (fun _ i _ => A.rs.length - (intOf i).toNat)
                  case atStart => exact ⟨0, [], Nat.zero_le _, rfl, World.ownsRow_nil _ _ _ _, by intro t h; simp at h, Below.refl _ _⟩
                  case round =>
                    obtain ⟨j2, vs, hj2, rfl, HO, HV, hb6⟩ := hrel
                    by_cases hlt7 : j2 < A.rs.length
                    · have r7 := R6.out.below hb6 hg2l6
                      obtain ⟨e1, e2⟩ := HCELL.out wr r7 j2 hlt7
                      have h7 : Held wr p F A2 := H6.out.1.below hb6
                      have hth : A2.there (A.rs[j2].1 : Int) = true := by
                        have := (hok.chain.get j2 hlt7).2.2.2
                        simp [Ar.there, Ar.find, H6.out.2.1, this]
                      have HTH := Lib.hid hth
                      clear hth e2 r7
                      go_wp2_with fail
                      refine (words_h h7 (A.rs[j2].1 : Int)).mono ?_
                      rintro e w8 ⟨v8, rfl, o8, b8⟩
                      rw [HTH.out]
                      obtain ⟨a8, c8, rfl⟩ := owns_slice o8
                      have hsz8 : wo2.heap.size ≤ w8.heap.size := Nat.le_trans hb6.size b8.size
                      have ho8 : w8.ownsRow wo2.heap.size 42 1 _ j2 vs := owns_below HO.out b8 fun g hg => (HO.out.lt g hg).2
                      have hvl : vs.length = j2 := by have := HO.out.1; omega
                      have HV8 : Hid (∀ t (h : t < (vs ++ [Value.slice a8 (A2.region A.rs[j2].1).length c8]).length) (h2 : t < A.rs.length), w8.ownsRow wo2.heap.size 29 1 (vs ++ [Value.slice a8 (A2.region A.rs[j2].1).length c8])[t] (A2.region A.rs[t].1).length (words (A2.region A.rs[t].1))) := by
                        intro t h h2
                        by_cases ht : t < vs.length
                        · rw [List.getElem_append_left ht]
                          exact owns_below (HV.out t ht h2) b8 fun g hg => ((HV.out t ht h2).lt g hg).2
                        · have hte : t = j2 := by simp at h; omega
                          subst hte
                          rw [List.getElem_append_right (by omega)]
                          simp only [hvl, Nat.sub_self, List.getElem_cons_zero]
                          exact owns_base o8 fun g hg => by have := (o8.lt g hg).1; have := hb6.size; omega
                      have HO8 := Lib.hid ho8
                      have hb8 := hb6.trans (b8.mono hb6.size)
                      have HVL := Lib.hid hvl
                      clear o8 ho8 hvl hb6 b8 h7 HV HO e1
                      go_wp2_with (at_builtin; refine wpList_append_own _ rfl _ _ 57 rfl wo2.heap.size 42 i42 (.slice none 0 0) 1 24 (by kernel_rfl) hi42 hz42 hs42 hb42 rfl (by decide) _ _ _ rfl (HO8.out.alloc _) ⟨w8.heap.size, 0, none⟩ 1 1 [.slice a8 (A2.region A.rs[j2].1).length c8] rfl rfl ?c1 ?c2 ?c3 ?c4 ?c5 ?_)
                      case c1 =>
                        intro t u ht
                        rw [Addr.add_lit, Nat.zero_add]
                        exact ((rowAt.made w8 42 [.slice a8 (A2.region A.rs[j2].1).length c8]).cell t).trans ht
                      case c2 => intro u hu; simp at hu; subst hu; rfl
                      case c3 => simp only [maxLen]; omega
                      case c4 => omega
                      case c5 => simp; omega
                      intro v9 w9 hown9 hgrow9 hnil9
                      have HV9 : Hid (∀ t (h : t < (vs ++ [Value.slice a8 (A2.region A.rs[j2].1).length c8]).length) (h2 : t < A.rs.length), w9.ownsRow wo2.heap.size 29 1 (vs ++ [Value.slice a8 (A2.region A.rs[j2].1).length c8])[t] (A2.region A.rs[t].1).length (words (A2.region A.rs[t].1))) := by
                        intro t h h2
                        have h9 := HV8.out t h h2
                        exact (h9.alloc _).kept hgrow9 (owns_types h9 HO8.out (by decide))
                      have hb9 : Below wo2.heap.size wo2 w9 := (hb8.alloc hsz8 _).grown hgrow9 (by simp; omega) (fun g hg => (HO8.out.lt g hg).1)
                      have HO9 := Lib.hid hown9
                      clear hown9 hgrow9 hnil9 hb8 HO8 HV8
                      go_wp2
                      go_roundw
                      case rel => exact ⟨j2 + 1, _, by omega, by go_num, HO9.out, HV9.out, hb9⟩
                      case measure => simp [intOf]; omega
                    · obtain rfl : j2 = A.rs.length := by omega
                      have hvl : vs.length = A.rs.length := by have := HO.out.1; omega
                      rcases owns_parts HO.out with ⟨_, h0, _⟩ | ⟨g9, cap9, rest9, rfl, hg9, r9, _⟩
                      · omega
                      have r7 := R6.out.below hb6 hg2l6
                      obtain ⟨e1, e2⟩ := HCELL.out wr r7 m2 hm2
                      have h7 : Held wr.drew p F A2 := (H6.out.1.below hb6).upon (S := fun _ => False) ⟨rfl, rfl, rfl, Nat.le_refl _, fun _ _ _ => rfl⟩ fun _ _ h => h
                      have hbw : Below w.heap.size w wr := s6.below.trans (hb6.mono s6.below.size)
                      have p2 : wr.cell? ⟨b3, o3 + k2 * 4 + 2, none⟩ = some (.int .i64 (f1 k2 2)) := (hbw.cell (p := ⟨b3, o3 + k2 * 4 + 2, none⟩) hb3).trans Q2.out
                      have p3 : wr.cell? ⟨b3, o3 + k2 * 4 + 3, none⟩ = some (.int .u64 (f1 k2 3)) := (hbw.cell (p := ⟨b3, o3 + k2 * 4 + 3, none⟩) hb3).trans Q3.out
                      have R9 := Lib.hid r9
                      have R7 := Lib.hid r7
                      have HVL := Lib.hid hvl
                      clear e2 r9 r7 hvl
                      go_wp2
                      go_still_tail 16, (by kernel_rfl)
                      change wpList _ _ _ _ _ wr.drew
                      go_wp2_with fail
                      refine (set_h h7 (A.rs[m2].1 : Int) (f1 k2 2) (f1 k2 3) HWX.out).mono ?_
                      rintro e w10 ⟨rfl, h10, s10⟩
                      have hFw : ∀ g, F g → g < wo2.heap.size := hF6
                      have r10 : rowAt w10 g2 55 (pairs A.rs ++ rest2) := rowAt.upon (w := wr.drew) R7.out s10.upon fun hg => hF5 _ hg rfl
                      have r910 : rowAt w10 g9 42 (vs ++ rest9) := rowAt.upon (w := wr.drew) R9.out s10.upon fun hg => by have := hFw _ hg; omega
                      have HV10 : Hid (∀ t (h : t < vs.length) (h2 : t < A.rs.length), w10.ownsRow wo2.heap.size 29 1 vs[t] (A2.region A.rs[t].1).length (words (A2.region A.rs[t].1))) := by
                        intro t h h2
                        have h9 := HV.out t h h2
                        have h9' : wr.drew.ownsRow wo2.heap.size 29 1 vs[t] (A2.region A.rs[t].1).length (words (A2.region A.rs[t].1)) := h9
                        exact owns_upon h9' s10.upon fun g hg hF => by have := (h9.lt g hg).1; have := hFw _ hF; omega
                      have s11 : Step (fun _ => False) F w w10 := Step.chain (s6.chain ⟨Upon.of_below (hb6.mono (Nat.le_refl _)), fun _ h => .inl h⟩) (Step.chain (b := wr.drew) ⟨⟨rfl, rfl, rfl, Nat.le_refl _, fun _ _ _ => rfl⟩, fun _ h => .inl h⟩ s10)
                      have H10 : Hid (Held w10 p F (A2.set (A.rs[m2].1 : Int) (f1 k2 2) (f1 k2 3)) ∧ (A2.set (A.rs[m2].1 : Int) (f1 k2 2) (f1 k2 3)).rs = A.rs ∧ (A2.set (A.rs[m2].1 : Int) (f1 k2 2) (f1 k2 3)).ws.length = 500) := ⟨h10, by rw [Ar.rs_set]; exact H6.out.2.1, by unfold Ar.set; split <;> simp [H6.out.2.2]⟩
                      have hreg : ∀ t (h2 : t < A.rs.length), t ≠ m2 → (A2.set (A.rs[m2].1 : Int) (f1 k2 2) (f1 k2 3)).region (A.rs[t].1 : Int) = A2.region (A.rs[t].1 : Int) := by
                        intro t h2 hne
                        have e := H6.out.2.1
                        have := region_set hok2 m2 t (by rw [e]; exact hm2) (by rw [e]; exact h2) hne (f1 k2 2) (f1 k2 3)
                        simpa only [e] using this
                      have HREG : Hid (∀ t (h2 : t < A.rs.length), t ≠ m2 → (A2.set (A.rs[m2].1 : Int) (f1 k2 2) (f1 k2 3)).region (A.rs[t].1 : Int) = A2.region (A.rs[t].1 : Int)) := hreg
                      have R10 := Lib.hid r10
                      have R910 := Lib.hid r910
                      have hreglen : ∀ (B : Ar) (k : Int), B.Ok → (B.region k).length ≤ 20000 := by
                        intro B k hB
                        have := hB.max
                        unfold Ar.region
                        split
                        · simp; omega
                        · simp
                      have HRL : Hid (∀ (B : Ar) (k : Int), B.Ok → (B.region k).length ≤ 20000) := hreglen
                      generalize A2.set (A.rs[m2].1 : Int) (f1 k2 2) (f1 k2 3) = A3 at *
                      clear h10 s10 r10 r910 hreg h7 hbw p1 p2 p3 e1 HV R9 R7 HO hb6 s6 H6 R6 Q2 Q3 hreglen
                      go_wp2
                      go_loopw [23] (fun i wr => ∃ j3 : Nat, j3 ≤ A.rs.length ∧ i = .int .i64 j3 ∧ Below w10.heap.size w10 wr) (fun i _ => A.rs.length - (intOf i).toNat)
                      case atStart => exact ⟨0, Nat.zero_le _, rfl, Below.refl _ _⟩
                      case round =>
                        obtain ⟨j3, hj3, rfl, hb3'⟩ := hrel
                        by_cases hlt8 : j3 < A.rs.length
                        · have r11 := R10.out.below hb3' R10.out.lt
                          obtain ⟨e1, e2⟩ := HCELL.out wr r11 j3 hlt8
                          have h11 : Held wr p F A3 := H10.out.1.below hb3'
                          have hth : A3.there (A.rs[j3].1 : Int) = true := by
                            have := (hok.chain.get j3 hlt8).2.2.2
                            simp [Ar.there, Ar.find, H10.out.2.1, this]
                          have HTH := Lib.hid hth
                          clear hth e2 r11
                          go_wp2_with fail
                          refine (words_h h11 (A.rs[j3].1 : Int)).mono ?_
                          rintro e w12 ⟨v12, rfl, o12, b12⟩
                          rw [HTH.out]
                          have b13 := hb3'.trans (b12.mono hb3'.size)
                          clear e1 b12 hb3'
                          by_cases hne : j3 = m2
                          · have d8 : ((j3 : Int) != (m2 : Int)) = false := by rw [hne]; simp
                            clear hne o12
                            go_wp2
                            go_roundw
                            case rel => exact ⟨j3 + 1, by omega, by go_num, b13⟩
                            case measure => simp [intOf]; omega
                          · have d8 : ((j3 : Int) != (m2 : Int)) = true := by rw [bne_iff_ne]; omega
                            have hj3v : j3 < vs.length := by rw [HVL.out]; exact hlt8
                            have r912 := R910.out.below b13 R910.out.lt
                            have e9 : w12.cell? ⟨g9, j3, none⟩ = some vs[j3] := by
                              rw [r912.cell, List.getElem?_append_left hj3v, List.getElem?_eq_getElem hj3v]
                            have hv12 := owns_below (HV10.out j3 hj3v hlt8) b13 fun g hg => ((HV10.out j3 hj3v hlt8).lt g hg).2
                            have hreq := HREG.out j3 hlt8 hne
                            have HO12 := Lib.hid o12
                            have HV12 := Lib.hid hv12
                            have HRQ := Lib.hid hreq
                            have hok3 := H10.out.1.ok
                            clear hne o12 hv12 hreq r912
                            go_wp2_with fail
                            refine (keepWords_h (xs := A3.region (A.rs[j3].1 : Int)) (ys := A2.region (A.rs[j3].1 : Int)) (readsAt.of_owns HO12.out) (readsAt.of_owns HV12.out) (by have := HRL.out A3 (A.rs[j3].1 : Int) hok3; omega) (b := true) (decide_eq_true HRQ.out)).mono ?_
                            rintro e w13 ⟨rfl, b14⟩
                            have b15 := b13.trans (b14.mono b13.size)
                            clear b14 b13 e9
                            go_wp2
                            go_roundw
                            case rel => exact ⟨j3 + 1, by omega, by go_num, b15⟩
                            case measure => simp [intOf]; omega
                        · obtain rfl : j3 = A.rs.length := by omega
                          have H11 : Hid (Held wr p F A3 ∧ A3.rs = A.rs ∧ A3.ws.length = 500) := ⟨H10.out.1.below hb3', H10.out.2⟩
                          have R11 := Lib.hid (R10.out.below hb3' R10.out.lt)
                          have s12 := s11.chain (Step.of_below (F := F) hb3')
                          clear HV10 R10 R910 H10 HREG
                          go_wp2
                          go_roundw
                          case rel => exact ⟨k2 + 1, A3, by omega, by go_num, H11.out, R11.out, s12⟩
                          case measure => simp [intOf]; omega
                · have b6 := s6.below
                  clear H6 R6
                  go_wp2_with fail
                  refine (wakes_any _).mono ?_
                  rintro e w20 ⟨rfl, b20⟩
                  go_wp2
                  go_ret
                  exact ⟨rfl, below_chain b6 b20⟩

theorem contract (H : Type) (enc : TypeId × Value → H) (W : World) (base : Nat) (args : Array Value) (ds gs : List (DataW H)) (before : List MemPlace)
    (hval0 : ∀ (j : Nat) t v, Try.f4.params[j]? = some t → args[j]? = some v → Value.okWide Try.prog W .any base t v)
    (hW : DataW.Whole enc Try.prog Try.f4.params.toList Rows.arenaApartSpec.vars false W args.toList ds gs before) :
    Calls Try.prog 4 args W fun e W' => ∃ v, e = .returned v ∧ Rows.arenaApartSpec.post enc Try.prog Try.f4 false true false false W args v W' := by
  have hW' := hW
  have hval := hval0
  obtain ⟨p, q, hA0, hV, rfl, hfz, hnd⟩ := hW
  have hA : DataW.TrodAll enc Try.prog W 0 (fun _ => true) true Try.f4.params.toList args.toList ds p := hA0
  rw [Try.params4] at hA hval
  obtain ⟨rfl, rfl⟩ := trodVars_none hV
  obtain ⟨v0, vs0, d0, ds0, p0, q0, hargs, rfl, rfl, h0, r0⟩ := trodAll_cons hA
  obtain ⟨v1, vs1, d1, ds1, p1, q1, rfl, rfl, rfl, h1, r1⟩ := trodAll_cons r0
  obtain ⟨rfl, rfl, rfl⟩ := trodAll_nil r1
  obtain rfl : args = #[v0, v1] := by cases args; simp_all
  obtain ⟨xs0, hr0, hx0, hm0⟩ := open_slice_int Try.underlying54 Try.underlying5 (by kernel_rfl) (hval 0 54 v0 rfl rfl) h0
  obtain ⟨n1, f1, hr1, hm1⟩ := open_slice_struct [.i64, .i64, .i64, .u64] Try.underlying22 (by kernel_rfl) (by kernel_rfl) ⟨_, rfl⟩ (hval 1 22 v1 rfl rfl) h1
  refine (walk v0 xs0 v1 n1 f1 W hr0 hx0 hm0 hr1 hm1).mono fun e W' ⟨he, hb⟩ => ?_
  subst he
  exact ⟨_, rfl, law_post laidOut (by kernel_rfl) rfl (by kernel_rfl) Try.underlying4 hW' rfl rfl rfl hb⟩

set_option maxRecDepth 100000 in
theorem lifted (os : Os) (started : os.Started) (H : Type) (enc : TypeId × Value → H) :
    ReturnsInHanded {} Try.checked os 4 .any (Rows.arenaApartSpec.pre6 enc Try.prog Try.f4 Rows.arenaApartRow.domain false) (Rows.arenaApartSpec.post enc Try.prog Try.f4 false true false false) := by
  refine returnsInHanded_of_change (C := Try.checked) own started (by kernel_rfl) Try.func4
    (ChangeSpec.witness6 (enc := enc) (C := Try.checked) false ⟨#[], #[.slice none 0 0, .slice none 0 0], []⟩ 8 (by kernel_rfl) (by kernel_rfl) (by kernel_rfl) (by kernel_rfl)) ?_
  intro W base args ds gs before hval hW _ _
  exact contract H enc W base args ds gs before hval hW

theorem over : Rows.arenaApartRow.holds Try.pinned (OpenSpec.ofChange Rows.arenaApartSpec) :=
  OpenClaim.holds_of_wide 4 Try.f4 rfl rfl rfl rfl rfl rfl rfl ⟨rfl, rfl, rfl, rfl, rfl⟩ rfl rfl rfl rfl rfl (by kernel_rfl) Try.func4 (by kernel_rfl)
    (of_decide_eq_true (by kernel_rfl)) (by unfold Func.isWrapper; first | (rw [if_pos (by decide +kernel)]; kernel_rfl) | (rw [if_neg (by decide +kernel)]; exact ⟨rfl, rfl⟩))
    (fun os started H enc _ => lifted os started H enc)

theorem proved : Rows.ArenaApartSaid := over
#print axioms proved
end Go.Proofs.Ythpkobogphegjaa.arenaApart
