/-
  For every program, place and byte the law CodeSpoilt returns true, and its arguments read as they did. Condition: the tables of packages op and code read when the call begins as the program's text lays them (the card ties them).
-/
import Derived.Test.YtabdbciebhmflaaDoorCoLa
import Derived.Test.YtabdbciebhmflaaDoorTie
import Derived.Test.YtabdbciebhmflaaDoorCards
import Derived.SevenTiedAt
import Derived.LaidMore
import Derived.Stop.Joined
namespace Go.Proofs.YtabdbciebhmflaaDoor.codeSpoilt
open Go.ChangeShapes Go.WideShapes Go.ChangeAt Go.RowKit
set_option linter.unusedVariables false
set_option linter.unusedSimpArgs false
set_option linter.unusedVariables false
set_option maxRecDepth 100000

theorem own : ownKnob Tryd.prog.godebug = none := by kernel_rfl
theorem laidOut : laidOutB Tryd.prog = true := by kernel_rfl

set_option maxHeartbeats 16000000 in
theorem walk (v1 v2 v3 : Value) (P : PPr) (a b : Int) (w : World) (hp : prAt (fun _ => False) w v1 v2 v3 P) (hf : prF P) (hr : PRe P) (wa : (Lit.int .u16 a).wf = true) (wb : (Lit.int .u8 b).wf = true) (T : CoTab w) :
    Calls Tryd.prog 6 #[.agg #[v1, v2, v3], .int .u16 a, .int .u8 b] w fun e w' => e = .returned (.bool true) ∧ Below w.heap.size w w' := by
  have ha : 0 ≤ a ∧ a < 65536 := by simp [Lit.wf, IntKind.min, IntKind.max, IntKind.signed, IntKind.bits] at wa; omega
  have hb8 : 0 ≤ b ∧ b < 256 := by simp [Lit.wf, IntKind.min, IntKind.max, IntKind.signed, IntKind.bits] at wb; omega
  clear wa wb
  have HB8 := Lib.hid hb8
  obtain ⟨ha0, ha1⟩ := ha
  clear hb8
  obtain ⟨i0, hi, hz0, hz1, hz2⟩ := info_parts info_byte
  have HF := Lib.hid hf
  have HR := Lib.hid hr
  have HP := Lib.hid hp
  obtain ⟨⟨a1, c1, rfl, -⟩, ⟨a2, c2, rfl, -⟩, ⟨a3, c3, rfl, -⟩⟩ := hp
  obtain ⟨W0, hW0⟩ : ∃ W0, w.alloc (.cells #[.slice a1 P.1.length c1, .slice a2 P.2.1.length c2, .slice a3 P.2.2.length c3] 26) = W0 := ⟨_, rfl⟩
  have B0 := Lib.hid (show Below w.heap.size w W0 by rw [← hW0]; exact down_alloc (Below.refl _ _) _)
  have r0 : rowAt W0 w.heap.size 26 [.slice a1 P.1.length c1, .slice a2 P.2.1.length c2, .slice a3 P.2.2.length c3] := by rw [← hW0]; exact rowAt.made _ _ _
  have R0 := Lib.hid r0
  clear hf hr r0
  have x0 : W0.cell? ⟨w.heap.size, 0, none⟩ = some (.slice a1 P.1.length c1) := (R0.out.cell 0).trans rfl
  have x1 : W0.cell? ⟨w.heap.size, 1, none⟩ = some (.slice a2 P.2.1.length c2) := (R0.out.cell 1).trans rfl
  have x2 : W0.cell? ⟨w.heap.size, 2, none⟩ = some (.slice a3 P.2.2.length c3) := (R0.out.cell 2).trans rfl
  go_enter Tryd.func6, Tryd.ntmps6
  go_wp2_with fail
  clear hW0 x0 x1 x2
  refine (large_any (HP.out.below B0.out) HR.out HF.out.st).mono ?_
  rintro e w1 ⟨lg, rfl, -, hb⟩
  have B1 := Lib.hid (down_call B0.out hb)
  have R1 := Lib.hid (R0.out.below hb R0.out.lt)
  clear hb
  cases lg
  · have zz : w.heap.size < w1.heap.size := R1.out.lt
    have x0 : w1.cell? ⟨w.heap.size, 0, none⟩ = some (.slice a1 P.1.length c1) := (R1.out.cell 0).trans rfl
    have x1 : w1.cell? ⟨w.heap.size, 1, none⟩ = some (.slice a2 P.2.1.length c2) := (R1.out.cell 1).trans rfl
    have x2 : w1.cell? ⟨w.heap.size, 2, none⟩ = some (.slice a3 P.2.2.length c3) := (R1.out.cell 2).trans rfl
    go_wp2_with fail
    refine (encode_any _ _ _ P _ (T.below B1.out) (HP.out.below B1.out) HF.out).mono ?_
    rintro e w2 ⟨sv, rfl, hown, hb⟩
    have B2 := Lib.hid (down_call B1.out hb)
    have R2 := Lib.hid (R1.out.below hb R1.out.lt)
    clear hb x0 x1 x2
    cases hG : prG P
    · obtain ⟨sa, sc, rfl⟩ := owns_slice hown
      clear hown
      go_wp2_with fail
      refine (wakes_any _ (T.below B2.out)).mono ?_
      rintro e w3 ⟨rfl, hb⟩
      have B3 := Lib.hid (down_call B2.out hb)
      go_wp2_with fail
      go_ret
      exact ⟨rfl, B3.out⟩
    · rw [encX_good hG] at hown
      obtain ⟨hl3, hl4⟩ := encPr_len hG
      obtain ⟨L, hL⟩ : ∃ L, encPr P = L := ⟨_, rfl⟩
      have HL := Lib.hid hL
      have LB := Lib.hid (show ∀ z ∈ L, 0 ≤ z ∧ z < 256 by rw [← hL]; exact encPr_bd P)
      rw [hL] at hown hl3 hl4
      have BY := Lib.hid (bySl.own hown rfl)
      obtain ⟨sa, sc, rfl⟩ := owns_slice hown
      have HG := Lib.hid hG
      clear hown hG hL
      have t1 : ((L.length : Int) == 0) = false := by rw [beq_eq_false_iff_ne]; omega
      obtain ⟨V2, hV2⟩ : ∃ V, w2.alloc (.cells #[] 5) = V := ⟨_, rfl⟩
      have hbV : Below w2.heap.size w2 V2 := by rw [← hV2]; exact down_alloc (Below.refl _ _) _
      have OE := Lib.hid (show V2.ownsRow w2.heap.size 5 1 (.slice (some ⟨w2.heap.size, 0, none⟩) 0 0) 0 [] by rw [← hV2]; exact own_emptyB)
      have z2 : w2.heap.size ≤ V2.heap.size := hbV.size
      have BYV := Lib.hid (BY.out.below hbV)
      have BV := Lib.hid (down_call B2.out hbV)
      have RV := Lib.hid (R2.out.below hbV R2.out.lt)
      clear hbV
      go_wp2_with (at_builtin; refine wpList_append_w (by rfl) _ _ _ (by rfl) w2.heap.size 5 i0 (.int .u8 0) 1 1 under_bytes hi hz0 hz1 hz2 (by rfl) (by decide) (.slice (some ⟨w2.heap.size, 0, none⟩) 0 0) 0 [] (by rfl) OE.out sa L.length sc (bytesL L) (by rfl) (by simp) (src_bytes BYV.out).2 (oneCell_bytes L) (by unfold maxLen; omega) (by omega) z2 ?_; intro v' w3 hown2 hgrow2 hb2; simp only [Nat.zero_add, List.nil_append] at hown2; obtain ⟨a9, c9, rfl⟩ := owns_slice hown2; have HOW2 := Lib.hid hown2; have HGR2 := Lib.hid hgrow2; clear hown2 hgrow2 hb2)
      clear hV2
      have hu := grown_of HGR2.out
      have B3 := Lib.hid (show Below w.heap.size w w3 from BV.out.trans (hu.belowB (B := w.heap.size) BV.out.size fun k e => by have e' : w2.heap.size = k := Option.some.inj e; have := B2.out.size; omega))
      have R3 := Lib.hid (RV.out.upon hu fun e => by have e' : w2.heap.size = w.heap.size := Option.some.inj e; have := R2.out.lt; omega)
      obtain ⟨g, cap, rest, hve, hrow, hcap, hlc, hcm, hg2⟩ : ∃ g cap rest, Value.slice a9 L.length c9 = .slice (some ⟨g, 0, none⟩) L.length cap ∧ rowAt w3 g 5 (bytesL L ++ rest) ∧ (bytesL L).length + rest.length = cap * 1 ∧ L.length ≤ cap ∧ cap ≤ maxLen ∧ w2.heap.size ≤ g := by
        rcases owns_parts HOW2.out with ⟨e, h1, h2⟩ | ⟨g, cap, rest, e, hg, hr, hl, hcap, hn, hm⟩
        · omega
        · exact ⟨g, cap, rest, e, hr, hcap, hn, hm, hg⟩
      cases hve
      have hgw : w.heap.size ≤ g := Nat.le_trans B2.out.size hg2
      have hgn : w.heap.size ≠ g := by have := R2.out.lt; omega
      have hLp : (0 : Int) < L.length := by omega
      obtain ⟨K, hk⟩ : ∃ K : Nat, a % (L.length : Int) = (K : Int) := ⟨(a % (L.length : Int)).toNat, (Int.toNat_of_nonneg (Int.emod_nonneg _ (by omega))).symm⟩
      have hKl : K < L.length := by have := Int.emod_lt_of_pos a hLp; omega
      obtain ⟨z, hz⟩ : ∃ z, L[K] = z := ⟨_, rfl⟩
      have HZ := Lib.hid hz
      have e1 : w3.cell? ⟨g, K, none⟩ = some (.int .u8 z) := by rw [hrow.cell, List.getElem?_append_left (by simpa using hKl), List.getElem?_map, List.getElem?_eq_getElem hKl, hz]; rfl
      have f1 : w3.frozen? ⟨g, K, none⟩ = false := hrow.free _
      obtain ⟨X, hX⟩ : ∃ X, bits .xor .u8 z b = X := ⟨_, rfl⟩
      have hzb := LB.out z (by rw [← hz]; exact List.getElem_mem hKl)
      have XB := Lib.hid (show 0 ≤ X ∧ X < 256 by rw [← hX]; exact xor8_bd hzb HB8.out)
      have XS := Lib.hid (show X = z ↔ b = 0 by rw [← hX]; exact xor8_same hzb HB8.out)
      obtain ⟨W4, hW4⟩ : ∃ W, w3.setCell ⟨g, K, none⟩ (.int .u8 X) = W := ⟨_, rfl⟩
      obtain ⟨L', hL'⟩ : ∃ L', L.set K X = L' := ⟨_, rfl⟩
      have hlen : L'.length = L.length := by rw [← hL']; simp
      have LB' := Lib.hid (show ∀ y ∈ L', 0 ≤ y ∧ y < 256 by
        intro y hy
        rw [← hL'] at hy
        rcases List.mem_or_eq_of_mem_set hy with h | rfl
        · exact LB.out y h
        · exact XB.out)
      have BY4 := Lib.hid (show bySl W4.heap.size W4 (.slice (some ⟨g, 0, none⟩) L.length c9) L' by
        have hr4 : rowAt W4 g 5 (bytesL L' ++ rest) := by
          rw [← hW4]
          have := hrow.set K (.int .u8 X)
          rwa [List.set_append_left _ _ (by simpa using hKl), ← List.map_set, hL'] at this
        rw [← hlen]
        exact bySl.own (owns_mk (B := 0) hr4 (Nat.zero_le _) (by simp) (by simp at hcap ⊢; omega) (by omega) hcm) rfl)
      have B4 := Lib.hid (show Below w.heap.size w W4 by rw [← hW4]; exact down_set B3.out hgw _)
      have R4 := Lib.hid (show rowAt W4 w.heap.size 26 [.slice a1 P.1.length c1, .slice a2 P.2.1.length c2, .slice a3 P.2.2.length c3] by rw [← hW4]; exact R3.out.upon (S := fun q => q = g) (Upon.setCell _ _ rfl) hgn)
      have HLEN := Lib.hid hlen
      have HLS := Lib.hid hL'
      clear hu hrow hz hzb hcap hcm hlc hlen hL' hLp
      go_wp2_with fail
      rw [hk]
      have hidx : ∀ w, (Instr.indexAt 27 (.slice (some ⟨g, 0, none⟩) L.length c9) (.int .i64 (K : Int))).run Tryd.prog w = .ok (.pointer (some ⟨g, K, none⟩)) w := fun w => idx_bytes g L.length c9 K hKl w
      rw [hidx]
      go_wp2_with fail
      clear hW4 e1 f1 hk hX hidx
      refine (decode_any _ L' _ (T.below B4.out) BY4.out LB'.out).mono ?_
      rintro e w5 ⟨q1, q2, q3, rfl, hq, hb⟩
      obtain ⟨k11, l11, rfl⟩ := hq.1.slice
      obtain ⟨k21, l21, rfl⟩ := hq.2.1.slice
      obtain ⟨k31, l31, rfl⟩ := hq.2.2.slice
      obtain ⟨V5, hV5⟩ : ∃ V, w5.alloc (.cells #[.slice k11 (decPr L').1.length l11, .slice k21 (decPr L').2.1.length l21, .slice k31 (decPr L').2.2.length l31] 26) = V := ⟨_, rfl⟩
      have hbV : Below w5.heap.size w5 V5 := by rw [← hV5]; exact down_alloc (Below.refl _ _) _
      have Q1 := Lib.hid ((hq.off (T := fun _ => False) fun _ _ t => t.elim).below hbV)
      have rV1 : rowAt V5 w5.heap.size 26 [.slice k11 (decPr L').1.length l11, .slice k21 (decPr L').2.1.length l21, .slice k31 (decPr L').2.2.length l31] := by rw [← hV5]; exact rowAt.made _ _ _
      have S1 := Lib.hid rV1
      have hbb := down_call hb hbV
      have B5 := Lib.hid (down_call B4.out hbb)
      have R5 := Lib.hid (R4.out.below hbb R4.out.lt)
      have BY5 := Lib.hid (BY4.out.below hbb)
      have z5 : w.heap.size < V5.heap.size := R5.out.lt
      have y0 : V5.cell? ⟨w5.heap.size, 0, none⟩ = some (.slice k11 (decPr L').1.length l11) := (S1.out.cell 0).trans rfl
      have y1 : V5.cell? ⟨w5.heap.size, 1, none⟩ = some (.slice k21 (decPr L').2.1.length l21) := (S1.out.cell 1).trans rfl
      have y2 : V5.cell? ⟨w5.heap.size, 2, none⟩ = some (.slice k31 (decPr L').2.2.length l31) := (S1.out.cell 2).trans rfl
      clear hq hb hbV hbb rV1
      have x0 : V5.cell? ⟨w.heap.size, 0, none⟩ = some (.slice a1 P.1.length c1) := (R5.out.cell 0).trans rfl
      have x1 : V5.cell? ⟨w.heap.size, 1, none⟩ = some (.slice a2 P.2.1.length c2) := (R5.out.cell 1).trans rfl
      have x2 : V5.cell? ⟨w.heap.size, 2, none⟩ = some (.slice a3 P.2.2.length c3) := (R5.out.cell 2).trans rfl
      by_cases hb0 : b = 0
      · have hXz := XS.out.2 hb0
        have hLL : L' = L := by rw [← HLS.out, hXz, ← HZ.out]; exact List.set_getElem_self _
        have D := dec_enc HG.out
        rw [HL.out, ← hLL] at D
        have D1 := Lib.hid D.1
        have EQ := Lib.hid (eqP_true (show P = decPr L' from D.2.symm))
        have t2 : (b == 0) = true := by rw [hb0]; rfl
        rw [D.1]
        clear hXz hLL D hb0
        go_wp2_with fail
        refine (keepProgram_any (HP.out.below B5.out) Q1.out HR.out.sizes).mono ?_
        rintro e w6 ⟨rfl, hb⟩
        rw [EQ.out]
        have B6 := Lib.hid (down_call B5.out hb)
        go_wp2_with fail
        refine (wakes_any _ (T.below B6.out)).mono ?_
        rintro e w7 ⟨rfl, hb⟩
        have B7 := Lib.hid (down_call B6.out hb)
        go_wp2_with fail
        go_ret
        exact ⟨rfl, B7.out⟩
      · have hne : L' ≠ L := fun e => by
          have h1 : L'[K]? = some X := by rw [← HLS.out, List.getElem?_set_self (by simpa using hKl)]
          rw [e, List.getElem?_eq_getElem hKl, HZ.out] at h1
          exact hb0 (XS.out.1 (Option.some.inj h1).symm)
        have t2 : (b == 0) = false := by rw [beq_eq_false_iff_ne]; exact hb0
        cases hD : decB L'
        · have hz := dec_zero hD
          have hz1 : (decPr L').1.length = 0 := by rw [hz]; rfl
          have t3 : (((decPr L').1.length : Int) == 0) = true := by rw [hz1]; rfl
          have HD := Lib.hid hD
          clear hb0 hne hz hD hz1
          go_wp2_with fail
          refine (wakes_any _ (T.below B5.out)).mono ?_
          rintro e w6 ⟨rfl, hb⟩
          have B6 := Lib.hid (down_call B5.out hb)
          go_wp2_with fail
          go_ret
          exact ⟨rfl, B6.out⟩
        · obtain ⟨hg1, hg2⟩ := enc_dec LB'.out hD
          have NE := Lib.hid (eqP_false (show ¬ P = decPr L' from fun e => hne (by rw [← hg2, ← e, HL.out])))
          have HG2 := Lib.hid hg1
          have HE2 := Lib.hid hg2
          have FQ := Lib.hid (decPr_fit LB'.out)
          clear hb0 hne hD hg1 hg2
          go_wp2_with fail
          refine (encode_any _ _ _ (decPr L') _ (T.below B5.out) Q1.out FQ.out).mono ?_
          rintro e w6 ⟨sv, rfl, hown, hb⟩
          rw [encX_good HG2.out, HE2.out] at hown
          rw [HG2.out]
          have B6 := Lib.hid (down_call B5.out hb)
          have R6 := R5.out.below hb R5.out.lt
          have S6 := S1.out.below hb S1.out.lt
          have BY6 := Lib.hid (BY5.out.below hb)
          have Q6 := Lib.hid (Q1.out.below hb)
          have NB := Lib.hid (bySl.own hown rfl)
          obtain ⟨sa6, sc6, rfl⟩ := owns_slice hown
          have u0 : w6.cell? ⟨w.heap.size, 0, none⟩ = some (.slice a1 P.1.length c1) := (R6.cell 0).trans rfl
          have u1 : w6.cell? ⟨w.heap.size, 1, none⟩ = some (.slice a2 P.2.1.length c2) := (R6.cell 1).trans rfl
          have u2 : w6.cell? ⟨w.heap.size, 2, none⟩ = some (.slice a3 P.2.2.length c3) := (R6.cell 2).trans rfl
          have v0 : w6.cell? ⟨w5.heap.size, 0, none⟩ = some (.slice k11 (decPr L').1.length l11) := (S6.cell 0).trans rfl
          have v1 : w6.cell? ⟨w5.heap.size, 1, none⟩ = some (.slice k21 (decPr L').2.1.length l21) := (S6.cell 1).trans rfl
          have v2 : w6.cell? ⟨w5.heap.size, 2, none⟩ = some (.slice k31 (decPr L').2.2.length l31) := (S6.cell 2).trans rfl
          clear hown hb R6 S6 y0 y1 y2 x0 x1 x2
          go_wp2_with fail
          refine (keepProgram_any (HP.out.below B6.out) Q6.out HR.out.sizes).mono ?_
          rintro e w7 ⟨rfl, hb⟩
          rw [NE.out]
          have B7 := Lib.hid (down_call B6.out hb)
          have BY7 := Lib.hid (BY6.out.below hb)
          have NB7 := Lib.hid (NB.out.below hb)
          clear hb
          go_wp2_with fail
          refine (keepBytes_any NB7.out BY7.out LB'.out LB'.out).mono ?_
          rintro e w8 ⟨rfl, rfl⟩
          rw [show decide (L' = L') = true from decide_eq_true rfl]
          go_wp2_with fail
          refine (wakes_any _ (T.below B7.out)).mono ?_
          rintro e w9 ⟨rfl, hb⟩
          have B8 := Lib.hid (down_call B7.out hb)
          go_wp2_with fail
          go_ret
          exact ⟨rfl, B8.out⟩
  · go_wp2_with fail
    refine (wakes_any _ (T.below B1.out)).mono ?_
    rintro e w2 ⟨rfl, hb⟩
    have B2 := Lib.hid (down_call B1.out hb)
    go_wp2_with fail
    go_ret
    exact ⟨rfl, B2.out⟩

theorem contract (H : Type) (enc : TypeId × Value → H) (W : World) (base : Nat) (args : Array Value) (ds gs : List (DataW H)) (before : List MemPlace)
    (hval0 : ∀ (j : Nat) t v, Tryd.f6.params[j]? = some t → args[j]? = some v → Value.okWide Tryd.prog W .any base t v)
    (hW : DataW.Whole enc Tryd.prog Tryd.f6.params.toList Rows.codeSpoiltSpec.vars false W args.toList ds gs before)
    (T : CoTab W)
    (hz : (DataW.weightsEach Tryd.prog (Tryd.f6.params.toList ++ Rows.codeSpoiltSpec.plain.varTypes Tryd.prog) (ds ++ gs)).all (· ≤ reachBytes) = true) :
    Calls Tryd.prog 6 args W fun e W' => ∃ v, e = .returned v ∧ Rows.codeSpoiltSpec.post enc Tryd.prog Tryd.f6 false true false false W args v W' := by
  have hW' := hW
  have hval := hval0
  obtain ⟨p, q, hA0, hV, rfl, hfz, hnd⟩ := hW
  have hA : DataW.TrodAll enc Tryd.prog W 0 (fun _ => true) true Tryd.f6.params.toList args.toList ds p := hA0
  rw [Tryd.params6] at hA hval
  obtain ⟨rfl, rfl⟩ := trodVars_none hV
  have wb : ∀ (j : Nat) (t : TypeId) (d : DataW H), Tryd.f6.params[j]? = some t → ds[j]? = some d → WB Tryd.prog t d := fun j t d ht hd => wb_of hz (by simpa using ht) hd
  rw [Tryd.params6] at wb
  obtain ⟨v0, vs0, d0, ds0, p0, q0, hargs, rfl, rfl, h0, r0⟩ := trodAll_cons hA
  obtain ⟨v1, vs1, d1, ds1, p1, q1, rfl, rfl, rfl, h1, r1⟩ := trodAll_cons r0
  obtain ⟨v2, vs2, d2, ds2, p2, q2, rfl, rfl, rfl, h2, r2⟩ := trodAll_cons r1
  obtain ⟨rfl, rfl, rfl⟩ := trodAll_nil r2
  obtain rfl : args = #[v0, v1, v2] := by cases args; simp_all
  obtain ⟨u0_1, u0_2, u0_3, P0, rfl, hp0, hf0, n0_1, n0_2, n0_3, n0_4, n0_5⟩ := open_prog (wb 0 _ _ rfl rfl) (hval 0 26 v0 rfl rfl) h0
  obtain ⟨a1, rfl, rfl, rfl, w1⟩ := open_int Tryd.underlying51 (hval 1 51 v1 rfl rfl) h1
  obtain ⟨a2, rfl, rfl, rfl, w2⟩ := open_int Tryd.underlying5 (hval 2 5 v2 rfl rfl) h2
  refine (walk u0_1 u0_2 u0_3 P0 a1 a2 W hp0 hf0 ⟨n0_1, n0_2, n0_3, n0_4, n0_5⟩ w1 w2 T).mono fun e W' ⟨he, hb⟩ => ?_
  subst he
  exact ⟨_, rfl, law_post laidOut (by kernel_rfl) rfl (by kernel_rfl) Tryd.underlying4 hW' rfl rfl rfl hb⟩

theorem door_met (os : Os) (args : Array Value) : laidMetH Tryd.prog Rows.codeSpoiltRow.laid ((World.doorLaid Tryd.prog 81 os).forCall (fun _ _ => 0) ⟨#[], args, []⟩).memory :=
  laidMetH_of_parts3 (fuel := 8) (laidMet_of_run' 8 (by kernel_rfl) (by kernel_rfl)) (by kernel_rfl) (by kernel_rfl)

set_option maxRecDepth 100000 in
theorem lifted (os : Os) (started : os.Started) (H : Type) (enc : TypeId × Value → H) :
    ReturnsInHanded {} Tryd.checked os 6 .any (fun w args => (Rows.codeSpoiltSpec.pre enc Tryd.prog Tryd.f6 [] false w args ∧ laidMetH Tryd.prog Rows.codeSpoiltRow.laid w) ∧ sizedMet enc Tryd.prog Tryd.f6 (OpenSpec.ofChange Rows.codeSpoiltSpec) false w args)
      (Rows.codeSpoiltSpec.post enc Tryd.prog Tryd.f6 false true false false) := by
  refine returnsInHanded_of_change_and (C := Tryd.checked) (X := fun w _ => laidMetH Tryd.prog Rows.codeSpoiltRow.laid w) (fun _ _ _ hh h => h.of_heap hh) own started (by kernel_rfl) Tryd.func6
    (ChangeSpec.witness_shaped (enc := enc) (C := Tryd.checked) (os := os) (X := fun w _ => laidMetH Tryd.prog Rows.codeSpoiltRow.laid w) false (World.doorLaid Tryd.prog 81 os) #[.agg #[.slice none 0 0, .slice none 0 0, .slice none 0 0], .int .u16 0, .int .u8 0] 8 rfl (World.shaped_of_RefB (by kernel_rfl) (by kernel_rfl)) (by kernel_rfl) (by kernel_rfl) (by kernel_rfl) (door_met os _)) ?_
  intro W base args ds gs before hval hW _ hz hL _
  exact contract H enc W base args ds gs before hval hW (cotab_of (optab_of (laid_lies (by kernel_rfl) hL _ _ (List.Mem.head _)) (laid_lies (by kernel_rfl) hL _ _ (List.Mem.tail _ (List.Mem.head _))) (laid_lies (by kernel_rfl) hL _ _ (List.Mem.tail _ (List.Mem.tail _ (List.Mem.head _))))) (laid_lies (by kernel_rfl) hL _ _ (List.Mem.tail _ (List.Mem.tail _ (List.Mem.tail _ (List.Mem.head _))))) (laid_lies (by kernel_rfl) hL _ _ (List.Mem.tail _ (List.Mem.tail _ (List.Mem.tail _ (List.Mem.tail _ (List.Mem.head _))))))) hz

theorem over : Rows.codeSpoiltRow.holds Tryd.pinned (OpenSpec.ofChange Rows.codeSpoiltSpec) :=
  OpenClaim.holds_of_wide 6 Tryd.f6 rfl rfl rfl rfl rfl rfl rfl ⟨rfl, rfl, rfl, rfl, rfl⟩ rfl rfl rfl rfl rfl (by kernel_rfl) Tryd.func6 (by kernel_rfl)
    (of_decide_eq_true (by kernel_rfl)) (by unfold Func.isWrapper; first | (rw [if_pos (by decide +kernel)]; kernel_rfl) | (rw [if_neg (by decide +kernel)]; exact ⟨rfl, rfl⟩))
    (fun os started H enc _ => lifted os started H enc)

theorem proved : Rows.CodeSpoiltCardSaid :=
  Claim7.holds_tied_plain_at .later [] [.data, .data, .data, .data, .data] true _ false
    over (fun _ h => by cases h) (by kernel_rfl) (fun _ h => by cases h) codeSpoilt_row_tie rfl ⟨rfl, rfl⟩ (by kernel_rfl) rfl
    (fun f fn hf hfn => by
      obtain rfl : f = 6 := Option.some.inj ((show Tryd.prog.funcNamed "stockpot/stockpotlaw07.CodeSpoilt" = some 6 by kernel_rfl).symm.trans hf) |>.symm
      obtain rfl : fn = Tryd.f6 := (Option.some.inj (Tryd.func6.symm.trans hfn)).symm
      exact ⟨by kernel_rfl, fun j t ht => by
        have hall : (Tryd.f6.params.toList.all fun u => !Tryd.prog.wantsStandIn u) = true := by kernel_rfl
        exact (show Tryd.prog.wantsStandIn t = false by simpa using List.all_eq_true.1 hall t (by simpa using Array.mem_of_getElem? ht))⟩)
    (by kernel_rfl)
#print axioms proved
end Go.Proofs.YtabdbciebhmflaaDoor.codeSpoilt
