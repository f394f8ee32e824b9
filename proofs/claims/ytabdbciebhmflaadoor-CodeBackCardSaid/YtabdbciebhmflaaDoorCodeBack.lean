/-
  For every program, bytes and byte the law CodeBack returns true, and its arguments read as they did. Condition: the tables of packages op and code read when the call begins as the program's text lays them (the card ties them).
-/
import Derived.Test.YtabdbciebhmflaaDoorCoLa
import Derived.Test.YtabdbciebhmflaaDoorTie
import Derived.Test.YtabdbciebhmflaaDoorCards
import Derived.SevenTiedAt
import Derived.LaidMore
import Derived.Stop.Joined
namespace Go.Proofs.YtabdbciebhmflaaDoor.codeBack
open Go.ChangeShapes Go.WideShapes Go.ChangeAt Go.RowKit
set_option linter.unusedVariables false
set_option linter.unusedSimpArgs false
set_option linter.unusedVariables false
set_option maxRecDepth 100000

theorem own : ownKnob Tryd.prog.godebug = none := by kernel_rfl
theorem laidOut : laidOutB Tryd.prog = true := by kernel_rfl

set_option maxHeartbeats 16000000 in
theorem walk (v1 v2 v3 : Value) (P : PPr) (v : Value) (l : List Int) (b : Int) (w : World) (hp : prAt (fun _ => False) w v1 v2 v3 P) (hf : prF P) (hr : PRe P) (hv : bySl w.heap.size w v l) (hlb : ∀ z ∈ l, 0 ≤ z ∧ z < 256) (hlr : l.length ≤ reachBytes) (wb : (Lit.int .u8 b).wf = true) (T : CoTab w) :
    Calls Tryd.prog 4 #[.agg #[v1, v2, v3], v, .int .u8 b] w fun e w' => e = .returned (.bool true) ∧ Below w.heap.size w w' := by
  have hb8 : 0 ≤ b ∧ b < 256 := by simp [Lit.wf, IntKind.min, IntKind.max, IntKind.signed, IntKind.bits] at wb; omega
  have HB8 := Lib.hid hb8
  have LB := Lib.hid hlb
  have BYW := Lib.hid hv
  rw [reach_eq] at hlr
  clear wb hb8 hlb
  obtain ⟨va, vc, rfl, -⟩ := hv
  obtain ⟨i0, hi, hz0, hz1, hz2⟩ := info_parts info_byte
  have HF := Lib.hid hf
  have HR := Lib.hid hr
  have HP := Lib.hid hp
  obtain ⟨⟨a1, c1, rfl, -⟩, ⟨a2, c2, rfl, -⟩, ⟨a3, c3, rfl, -⟩⟩ := hp
  obtain ⟨W0, hW0⟩ : ∃ W0, w.alloc (.cells #[.slice a1 P.1.length c1, .slice a2 P.2.1.length c2, .slice a3 P.2.2.length c3] 26) = W0 := ⟨_, rfl⟩
  have B0 := Lib.hid (show Below w.heap.size w W0 by rw [← hW0]; exact down_alloc (Below.refl _ _) _)
  have r0 : rowAt W0 w.heap.size 26 [.slice a1 P.1.length c1, .slice a2 P.2.1.length c2, .slice a3 P.2.2.length c3] := by rw [← hW0]; exact rowAt.made _ _ _
  have R0 := Lib.hid r0
  clear hf hr r0
  have x0 : W0.cell? ⟨w.heap.size, 0, none⟩ = some (.slice a1 P.1.length c1) := (R0.out.cell 0).trans rfl
  have x1 : W0.cell? ⟨w.heap.size, 1, none⟩ = some (.slice a2 P.2.1.length c2) := (R0.out.cell 1).trans rfl
  have x2 : W0.cell? ⟨w.heap.size, 2, none⟩ = some (.slice a3 P.2.2.length c3) := (R0.out.cell 2).trans rfl
  go_enter Tryd.func4, Tryd.ntmps4
  go_wp2_with fail
  clear hW0 x0 x1 x2
  refine (large_any (HP.out.below B0.out) HR.out HF.out.st).mono ?_
  rintro e w1 ⟨lg, rfl, -, hb⟩
  have B1 := Lib.hid (down_call B0.out hb)
  have R1 := Lib.hid (R0.out.below hb R0.out.lt)
  have BY1 := Lib.hid (BYW.out.below B1.out)
  clear hb
  cases lg
  · by_cases hl6 : l.length ≤ 6000
    · have hl6' : ¬ (6000 : Int) < l.length := by omega
      have zz : w.heap.size < w1.heap.size := R1.out.lt
      have x0 : w1.cell? ⟨w.heap.size, 0, none⟩ = some (.slice a1 P.1.length c1) := (R1.out.cell 0).trans rfl
      have x1 : w1.cell? ⟨w.heap.size, 1, none⟩ = some (.slice a2 P.2.1.length c2) := (R1.out.cell 1).trans rfl
      have x2 : w1.cell? ⟨w.heap.size, 2, none⟩ = some (.slice a3 P.2.2.length c3) := (R1.out.cell 2).trans rfl
      go_wp2_with fail
      refine (encode_any _ _ _ P _ (T.below B1.out) (HP.out.below B1.out) HF.out).mono ?_
      rintro e w2 ⟨sv, rfl, hown, hb⟩
      have B2 := Lib.hid (down_call B1.out hb)
      have R2 := Lib.hid (R1.out.below hb R1.out.lt)
      have BY2 := Lib.hid (BY1.out.below hb)
      clear hb x0 x1 x2
      cases hG : prG P
      · obtain ⟨sa, sc, rfl⟩ := owns_slice hown
        clear hown
        have x0 : w2.cell? ⟨w.heap.size, 0, none⟩ = some (.slice a1 P.1.length c1) := (R2.out.cell 0).trans rfl
        have x1 : w2.cell? ⟨w.heap.size, 1, none⟩ = some (.slice a2 P.2.1.length c2) := (R2.out.cell 1).trans rfl
        have x2 : w2.cell? ⟨w.heap.size, 2, none⟩ = some (.slice a3 P.2.2.length c3) := (R2.out.cell 2).trans rfl
        go_wp2_with fail
        refine (decode_any _ l _ (T.below B2.out) BY2.out.all LB.out).mono ?_
        rintro e u5 ⟨q1, q2, q3, rfl, hq, hb⟩
        obtain ⟨k19, l19, rfl⟩ := hq.1.slice
        obtain ⟨k29, l29, rfl⟩ := hq.2.1.slice
        obtain ⟨k39, l39, rfl⟩ := hq.2.2.slice
        obtain ⟨U5, hU5⟩ : ∃ V, u5.alloc (.cells #[.slice k19 (decPr l).1.length l19, .slice k29 (decPr l).2.1.length l29, .slice k39 (decPr l).2.2.length l39] 26) = V := ⟨_, rfl⟩
        have hbV : Below u5.heap.size u5 U5 := by rw [← hU5]; exact down_alloc (Below.refl _ _) _
        have Q9 := Lib.hid ((hq.off (T := fun _ => False) fun _ _ t => t.elim).below hbV)
        have rV9 : rowAt U5 u5.heap.size 26 [.slice k19 (decPr l).1.length l19, .slice k29 (decPr l).2.1.length l29, .slice k39 (decPr l).2.2.length l39] := by rw [← hU5]; exact rowAt.made _ _ _
        have S9 := Lib.hid rV9
        have hbb := down_call hb hbV
        have C5 := Lib.hid (down_call B2.out hbb)
        have y0 : U5.cell? ⟨u5.heap.size, 0, none⟩ = some (.slice k19 (decPr l).1.length l19) := (S9.out.cell 0).trans rfl
        have y1 : U5.cell? ⟨u5.heap.size, 1, none⟩ = some (.slice k29 (decPr l).2.1.length l29) := (S9.out.cell 1).trans rfl
        have y2 : U5.cell? ⟨u5.heap.size, 2, none⟩ = some (.slice k39 (decPr l).2.2.length l39) := (S9.out.cell 2).trans rfl
        have BY9 := Lib.hid ((BY2.out.below (below_chain hb hbV)))
        clear hq hb hbV hbb rV9 x0 x1 x2
        cases hD : decB l
        · have hz := dec_zero hD
          have hz1 : (decPr l).1.length = 0 := by rw [hz]; rfl
          have hz2' : (decPr l).2.1.length = 0 := by rw [hz]; rfl
          have hz3 : (decPr l).2.2.length = 0 := by rw [hz]; rfl
          have t3 : (((decPr l).1.length : Int) == 0) = true := by rw [hz1]; rfl
          have t4 : (((decPr l).2.1.length : Int) == 0) = true := by rw [hz2']; rfl
          have t5 : (((decPr l).2.2.length : Int) == 0) = true := by rw [hz3]; rfl
          clear hz hz1 hz2' hz3 hD
          go_wp2_with fail
          refine (wakes_any _ (T.below C5.out)).mono ?_
          rintro e u6 ⟨rfl, hb⟩
          have C6 := Lib.hid (down_call C5.out hb)
          go_wp2_with fail
          go_ret
          exact ⟨rfl, C6.out⟩
        · obtain ⟨hg1, hg2⟩ := enc_dec LB.out hD
          have HG2 := Lib.hid hg1
          have HE2 := Lib.hid hg2
          have FQ := Lib.hid (decPr_fit LB.out)
          clear hD hg1 hg2
          go_wp2_with fail
          refine (encode_any _ _ _ (decPr l) _ (T.below C5.out) Q9.out FQ.out).mono ?_
          rintro e u6 ⟨sv, rfl, hown, hb⟩
          rw [encX_good HG2.out, HE2.out] at hown
          rw [HG2.out]
          have C6 := Lib.hid (down_call C5.out hb)
          have S6 := S9.out.below hb S9.out.lt
          have BY6 := Lib.hid (BY9.out.below hb)
          have Q6 := Lib.hid (Q9.out.below hb)
          have NB := Lib.hid (bySl.own hown rfl)
          obtain ⟨sa6, sc6, rfl⟩ := owns_slice hown
          have v0 : u6.cell? ⟨u5.heap.size, 0, none⟩ = some (.slice k19 (decPr l).1.length l19) := (S6.cell 0).trans rfl
          have v1 : u6.cell? ⟨u5.heap.size, 1, none⟩ = some (.slice k29 (decPr l).2.1.length l29) := (S6.cell 1).trans rfl
          have v2 : u6.cell? ⟨u5.heap.size, 2, none⟩ = some (.slice k39 (decPr l).2.2.length l39) := (S6.cell 2).trans rfl
          clear hown hb S6 y0 y1 y2
          go_wp2_with fail
          refine (keepBytes_any NB.out BY6.out LB.out LB.out).mono ?_
          rintro e u7 ⟨rfl, rfl⟩
          rw [show decide (l = l) = true from decide_eq_true rfl]
          go_wp2_with fail
          refine (codeGood_is HG2.out _ _ _ _ (T.op.below C6.out) Q6.out FQ.out).mono ?_
          rintro e u8 ⟨rfl, hb⟩
          have C8 := Lib.hid (down_call C6.out hb)
          go_wp2_with fail
          refine (wakes_any _ (T.below C8.out)).mono ?_
          rintro e u9 ⟨rfl, hb⟩
          have C9 := Lib.hid (down_call C8.out hb)
          go_wp2_with fail
          go_ret
          exact ⟨rfl, C9.out⟩
      · rw [encX_good hG] at hown
        obtain ⟨hl3, hl4⟩ := encPr_len hG
        obtain ⟨L, hL⟩ : ∃ L, encPr P = L := ⟨_, rfl⟩
        have HL := Lib.hid hL
        have HG := Lib.hid hG
        have LX := Lib.hid (show ∀ z ∈ L, 0 ≤ z ∧ z < 256 by rw [← hL]; exact encPr_bd P)
        rw [hL] at hown hl3 hl4
        have BX := Lib.hid (bySl.own hown rfl)
        have hcap : ∃ sa sc, sv = .slice sa L.length sc ∧ L.length ≤ sc := by
          obtain ⟨a9, c9, e, h9, _⟩ := BX.out
          exact ⟨a9, c9, e, h9⟩
        obtain ⟨sa, sc, rfl, hsc⟩ := hcap
        have D := dec_enc hG
        rw [hL] at D
        have D1 := Lib.hid D.1
        have D2 := Lib.hid D.2
        clear hown hG hL D
        go_wp2_with fail
        refine (decode_any _ L _ (T.below B2.out) BX.out LX.out).mono ?_
        rintro e w3 ⟨q1, q2, q3, rfl, hq, hb⟩
        obtain ⟨k11, l11, rfl⟩ := hq.1.slice
        obtain ⟨k21, l21, rfl⟩ := hq.2.1.slice
        obtain ⟨k31, l31, rfl⟩ := hq.2.2.slice
        obtain ⟨V3, hV3⟩ : ∃ V, w3.alloc (.cells #[.slice k11 (decPr L).1.length l11, .slice k21 (decPr L).2.1.length l21, .slice k31 (decPr L).2.2.length l31] 26) = V := ⟨_, rfl⟩
        have hbV : Below w3.heap.size w3 V3 := by rw [← hV3]; exact down_alloc (Below.refl _ _) _
        have Q1 := Lib.hid ((hq.off (T := fun _ => False) fun _ _ t => t.elim).below hbV)
        have rV1 : rowAt V3 w3.heap.size 26 [.slice k11 (decPr L).1.length l11, .slice k21 (decPr L).2.1.length l21, .slice k31 (decPr L).2.2.length l31] := by rw [← hV3]; exact rowAt.made _ _ _
        have S1 := Lib.hid rV1
        have hbb := down_call hb hbV
        have B3 := Lib.hid (down_call B2.out hbb)
        have R3 := Lib.hid (R2.out.below hbb R2.out.lt)
        have BY3 := Lib.hid (BY2.out.below hbb)
        have BX3 := Lib.hid (BX.out.below hbb)
        rw [D1.out]
        clear hq hb hbV hbb rV1
        obtain ⟨V4, hV4⟩ : ∃ V, V3.alloc (.cells #[] 5) = V := ⟨_, rfl⟩
        have hbV : Below V3.heap.size V3 V4 := by rw [← hV4]; exact down_alloc (Below.refl _ _) _
        have OE := Lib.hid (show V4.ownsRow V3.heap.size 5 1 (.slice (some ⟨V3.heap.size, 0, none⟩) 0 0) 0 [] by rw [← hV4]; exact own_emptyB)
        have z4 : V3.heap.size ≤ V4.heap.size := hbV.size
        have BX4 := Lib.hid (BX3.out.below hbV)
        have BB4 := Lib.hid (show Below V3.heap.size V3 V4 from hbV)
        clear hbV
        go_wp2_with (first | (at_builtin; refine wpList_append_w (by rfl) _ _ _ (by rfl) V3.heap.size 5 i0 (.int .u8 0) 1 1 under_bytes hi hz0 hz1 hz2 (by rfl) (by decide) (.slice (some ⟨V3.heap.size, 0, none⟩) 0 0) 0 [] (by rfl) OE.out sa L.length sc (bytesL L) (by rfl) (by simp) (src_bytes BX4.out).2 (oneCell_bytes L) (by unfold maxLen; omega) (by omega) z4 ?_; intro v' w4 hown2 hgrow2 hb2; simp only [Nat.zero_add, List.nil_append] at hown2; obtain ⟨a9, c9, rfl⟩ := owns_slice hown2; have HOW2 := Lib.hid hown2; have HGR2 := Lib.hid (grown_of hgrow2); clear hown2 hgrow2 hb2; obtain ⟨W5, hW5⟩ : ∃ W, w4.alloc (.cells #[.int .u8 b] 5) = W := ⟨_, rfl⟩; have BB5 := Lib.hid (show Below w4.heap.size w4 W5 by rw [← hW5]; exact down_alloc (Below.refl _ _) _); have ROW5 := Lib.hid (show rowAt W5 w4.heap.size 5 [.int .u8 b] by rw [← hW5]; exact rowAt.made _ _ _); have OWN5 := Lib.hid (owns_upon HOW2.out (upon_of_below BB5.out) fun _ _ t => t); have z5 : V3.heap.size ≤ W5.heap.size := Nat.le_trans z4 (Nat.le_trans HGR2.out.size BB5.out.size)) | (at_builtin; refine wpList_append_w (by rfl) _ _ _ (by rfl) V3.heap.size 5 i0 (.int .u8 0) 1 1 under_bytes hi hz0 hz1 hz2 (by rfl) (by decide) (.slice a9 L.length c9) L.length (bytesL L) (by rfl) OWN5.out (some ⟨w4.heap.size, 0, none⟩) 1 1 [.int .u8 b] (by rfl) (by rfl) (src_row ROW5.out 1) (oneCell_one _ _) (by unfold maxLen; omega) (by omega) z5 ?_; intro v'' w6 hown3 hgrow3 hb3; obtain ⟨a8, c8, rfl⟩ := owns_slice hown3; have HOW3 := Lib.hid hown3; have HGR3 := Lib.hid (grown_of hgrow3); clear hown3 hgrow3 hb3))
        clear hV4
        have hLM : (L ++ [b]).length = L.length + 1 := by simp
        have BM := Lib.hid (show bySl w6.heap.size w6 (.slice a8 (L.length + 1) c8) (L ++ [b]) from by
          have h := HOW3.out
          rw [show bytesL L ++ [.int .u8 b] = bytesL (L ++ [b]) by simp] at h
          have := bySl.own h hLM.symm
          exact this)
        have U3 : Upon (fun g => V3.heap.size ≤ g) V3 w6 := by
          have o9 := Lib.hid (own_ge HOW2.out)
          have h1 : Upon (fun g => V3.heap.size ≤ g) V3 V4 := Upon.of_below BB4.out
          have h2 : Upon (fun g => V3.heap.size ≤ g) V4 w4 := HGR2.out.mono fun k hk e => by have e' : V3.heap.size = k := Option.some.inj e; omega
          have h3 : Upon (fun g => V3.heap.size ≤ g) w4 W5 := Upon.of_below BB5.out
          have h4 : Upon (fun g => V3.heap.size ≤ g) W5 w6 := HGR3.out.mono fun k hk e => (o9.out k e).1
          exact ((h1.trans h2 fun _ _ h => h).trans h3 fun _ _ h => h).trans h4 fun _ _ h => h
        have BB6 := Lib.hid (show Below V3.heap.size V3 w6 from U3.below fun _ h => h)
        have LM := Lib.hid (show ∀ z ∈ L ++ [b], 0 ≤ z ∧ z < 256 from fun z hz => by
          rcases List.mem_append.1 hz with h | h
          · exact LX.out z h
          · obtain rfl := List.mem_singleton.1 h; exact HB8.out)
        have DM := Lib.hid (show decB (L ++ [b]) = false by rw [← HL.out]; exact dec_more HG.out b)
        have B6 := Lib.hid (B3.out.trans (BB6.out.mono B3.out.size))
        have R6 := Lib.hid (R3.out.below BB6.out R3.out.lt)
        have BY6 := Lib.hid (BY3.out.below BB6.out)
        have BX6 := Lib.hid (BX3.out.below BB6.out)
        have S6 := Lib.hid (S1.out.below BB6.out S1.out.lt)
        have Q6 := Lib.hid (Q1.out.below BB6.out)
        obtain ⟨LE, hLE⟩ : ∃ LE, L ++ [b] = LE := ⟨_, rfl⟩
        rw [hLE] at BM LM DM
        clear U3 hLM hLE hW5
        refine (decode_any _ LE _ (T.below B6.out) BM.out LM.out).mono ?_
        rintro e w7 ⟨q1, q2, q3, rfl, hq, hb⟩
        obtain ⟨k12, l12, rfl⟩ := hq.1.slice
        obtain ⟨k22, l22, rfl⟩ := hq.2.1.slice
        obtain ⟨k32, l32, rfl⟩ := hq.2.2.slice
        obtain ⟨V7, hV7⟩ : ∃ V, w7.alloc (.cells #[.slice k12 (decPr LE).1.length l12, .slice k22 (decPr LE).2.1.length l22, .slice k32 (decPr LE).2.2.length l32] 26) = V := ⟨_, rfl⟩
        have hbV : Below w7.heap.size w7 V7 := by rw [← hV7]; exact down_alloc (Below.refl _ _) _
        have Q2 := Lib.hid ((hq.off (T := fun _ => False) fun _ _ t => t.elim).below hbV)
        have rV2 : rowAt V7 w7.heap.size 26 [.slice k12 (decPr LE).1.length l12, .slice k22 (decPr LE).2.1.length l22, .slice k32 (decPr LE).2.2.length l32] := by rw [← hV7]; exact rowAt.made _ _ _
        have S2 := Lib.hid rV2
        have hbb := down_call hb hbV
        have B7 := Lib.hid (down_call B6.out hbb)
        have R7 := Lib.hid (R6.out.below hbb R6.out.lt)
        have BY7 := Lib.hid (BY6.out.below hbb)
        have BX7 := Lib.hid (BX6.out.below hbb)
        have S7 := Lib.hid (S6.out.below hbb S6.out.lt)
        have Q7 := Lib.hid (Q6.out.below hbb)
        rw [DM.out]
        clear hq hb hbV hbb rV2
        obtain ⟨n, hn⟩ : ∃ n, L.length = n + 1 := ⟨L.length - 1, by omega⟩
        have hnI : ((L.length : Nat) : Int) - 1 = n := by omega
        have hn0 : (0 : Int) ≤ n := by omega
        have hrun : ∀ w, (Instr.slice 27 (.slice sa L.length sc) none (some (.int .i64 (n : Int))) none).run Tryd.prog w = .ok (.slice sa n sc) w := fun w => run_slice_to_w _ _ under_bytes hi sa (by omega) hsc w
        have LS := Lib.hid (show ∀ z ∈ L.take n, 0 ≤ z ∧ z < 256 from fun z hz => LX.out z (List.mem_of_mem_take hz))
        have DS := Lib.hid (show decB (L.take n) = false from dec_fewer HG.out LS.out (z := L[n]) (by rw [HL.out]; have := List.take_succ_eq_append_getElem (show n < L.length by omega); rw [show n + 1 = L.length by omega, List.take_length] at this; exact this))
        have BS := Lib.hid (show bySl V7.heap.size V7 (.slice sa n sc) (L.take n) from by
          obtain ⟨a', c', e, h1, h2, h⟩ := BX7.out.all
          cases e
          have hl : (L.take n).length = n := List.length_take_of_le (by omega)
          refine ⟨_, _, by rw [hl], by rw [hl]; omega, h2, ?_⟩
          rcases h with h | ⟨b', o, rfl, hb1, hb2, hc⟩
          · omega
          · exact .inr ⟨b', o, rfl, hb1, hb2, fun j z hj => hc j z (by
              rw [List.getElem?_take] at hj
              split at hj
              · exact hj
              · cases hj)⟩)
        obtain ⟨LF, hLF⟩ : ∃ LF, L.take n = LF := ⟨_, rfl⟩
        rw [hLF] at LS DS BS
        clear hn hLF
        go_wp2_with fail
        clear hrun
        refine (decode_any _ LF _ (T.below B7.out) BS.out LS.out).mono ?_
        rintro e w8 ⟨q1, q2, q3, rfl, hq, hb⟩
        obtain ⟨k13, l13, rfl⟩ := hq.1.slice
        obtain ⟨k23, l23, rfl⟩ := hq.2.1.slice
        obtain ⟨k33, l33, rfl⟩ := hq.2.2.slice
        obtain ⟨V8, hV8⟩ : ∃ V, w8.alloc (.cells #[.slice k13 (decPr LF).1.length l13, .slice k23 (decPr LF).2.1.length l23, .slice k33 (decPr LF).2.2.length l33] 26) = V := ⟨_, rfl⟩
        have hbV : Below w8.heap.size w8 V8 := by rw [← hV8]; exact down_alloc (Below.refl _ _) _
        have Q3 := Lib.hid ((hq.off (T := fun _ => False) fun _ _ t => t.elim).below hbV)
        have rV3 : rowAt V8 w8.heap.size 26 [.slice k13 (decPr LF).1.length l13, .slice k23 (decPr LF).2.1.length l23, .slice k33 (decPr LF).2.2.length l33] := by rw [← hV8]; exact rowAt.made _ _ _
        have S3 := Lib.hid rV3
        have hbb := down_call hb hbV
        have B8 := Lib.hid (down_call B7.out hbb)
        have R8 := Lib.hid (R7.out.below hbb R7.out.lt)
        have BY8 := Lib.hid (BY7.out.below hbb)
        have S8 := S7.out.below hbb S7.out.lt
        have Q8 := Lib.hid (Q7.out.below hbb)
        rw [DS.out]
        clear hq hb hbV hbb rV3
        have y0 : V8.cell? ⟨w3.heap.size, 0, none⟩ = some (.slice k11 (decPr L).1.length l11) := (S8.cell 0).trans rfl
        have y1 : V8.cell? ⟨w3.heap.size, 1, none⟩ = some (.slice k21 (decPr L).2.1.length l21) := (S8.cell 1).trans rfl
        have y2 : V8.cell? ⟨w3.heap.size, 2, none⟩ = some (.slice k31 (decPr L).2.2.length l31) := (S8.cell 2).trans rfl
        clear S8
        have x0 : V8.cell? ⟨w.heap.size, 0, none⟩ = some (.slice a1 P.1.length c1) := (R8.out.cell 0).trans rfl
        have x1 : V8.cell? ⟨w.heap.size, 1, none⟩ = some (.slice a2 P.2.1.length c2) := (R8.out.cell 1).trans rfl
        have x2 : V8.cell? ⟨w.heap.size, 2, none⟩ = some (.slice a3 P.2.2.length c3) := (R8.out.cell 2).trans rfl
        have EQ := Lib.hid (eqP_true (show decPr L = P from D2.out))
        have QS := Lib.hid (show prS (decPr L) by rw [D2.out]; exact HR.out.sizes)
        go_wp2_with fail
        clear hV8 y0 y1 y2 x0 x1 x2
        refine (keepProgram_any Q8.out (HP.out.below B8.out) QS.out).mono ?_
        rintro e w9 ⟨rfl, hb⟩
        rw [EQ.out]
        have B9 := Lib.hid (down_call B8.out hb)
        have R9 := Lib.hid (R8.out.below hb R8.out.lt)
        have BY9' := Lib.hid (BY8.out.below hb)
        clear hb
        have x0 : w9.cell? ⟨w.heap.size, 0, none⟩ = some (.slice a1 P.1.length c1) := (R9.out.cell 0).trans rfl
        have x1 : w9.cell? ⟨w.heap.size, 1, none⟩ = some (.slice a2 P.2.1.length c2) := (R9.out.cell 1).trans rfl
        have x2 : w9.cell? ⟨w.heap.size, 2, none⟩ = some (.slice a3 P.2.2.length c3) := (R9.out.cell 2).trans rfl
        go_wp2_with fail
        refine (decode_any _ l _ (T.below B9.out) BY9'.out.all LB.out).mono ?_
        rintro e u5 ⟨q1, q2, q3, rfl, hq, hb⟩
        obtain ⟨k19, l19, rfl⟩ := hq.1.slice
        obtain ⟨k29, l29, rfl⟩ := hq.2.1.slice
        obtain ⟨k39, l39, rfl⟩ := hq.2.2.slice
        obtain ⟨U5, hU5⟩ : ∃ V, u5.alloc (.cells #[.slice k19 (decPr l).1.length l19, .slice k29 (decPr l).2.1.length l29, .slice k39 (decPr l).2.2.length l39] 26) = V := ⟨_, rfl⟩
        have hbV : Below u5.heap.size u5 U5 := by rw [← hU5]; exact down_alloc (Below.refl _ _) _
        have Q9 := Lib.hid ((hq.off (T := fun _ => False) fun _ _ t => t.elim).below hbV)
        have rV9 : rowAt U5 u5.heap.size 26 [.slice k19 (decPr l).1.length l19, .slice k29 (decPr l).2.1.length l29, .slice k39 (decPr l).2.2.length l39] := by rw [← hU5]; exact rowAt.made _ _ _
        have S9 := Lib.hid rV9
        have hbb := down_call hb hbV
        have C5 := Lib.hid (down_call B9.out hbb)
        have y0 : U5.cell? ⟨u5.heap.size, 0, none⟩ = some (.slice k19 (decPr l).1.length l19) := (S9.out.cell 0).trans rfl
        have y1 : U5.cell? ⟨u5.heap.size, 1, none⟩ = some (.slice k29 (decPr l).2.1.length l29) := (S9.out.cell 1).trans rfl
        have y2 : U5.cell? ⟨u5.heap.size, 2, none⟩ = some (.slice k39 (decPr l).2.2.length l39) := (S9.out.cell 2).trans rfl
        have BY9 := Lib.hid ((BY9'.out.below (below_chain hb hbV)))
        clear hq hb hbV hbb rV9 x0 x1 x2
        cases hD : decB l
        · have hz := dec_zero hD
          have hz1 : (decPr l).1.length = 0 := by rw [hz]; rfl
          have hz2' : (decPr l).2.1.length = 0 := by rw [hz]; rfl
          have hz3 : (decPr l).2.2.length = 0 := by rw [hz]; rfl
          have t3 : (((decPr l).1.length : Int) == 0) = true := by rw [hz1]; rfl
          have t4 : (((decPr l).2.1.length : Int) == 0) = true := by rw [hz2']; rfl
          have t5 : (((decPr l).2.2.length : Int) == 0) = true := by rw [hz3]; rfl
          clear hz hz1 hz2' hz3 hD
          go_wp2_with fail
          refine (wakes_any _ (T.below C5.out)).mono ?_
          rintro e u6 ⟨rfl, hb⟩
          have C6 := Lib.hid (down_call C5.out hb)
          go_wp2_with fail
          go_ret
          exact ⟨rfl, C6.out⟩
        · obtain ⟨hg1, hg2⟩ := enc_dec LB.out hD
          have HG2 := Lib.hid hg1
          have HE2 := Lib.hid hg2
          have FQ := Lib.hid (decPr_fit LB.out)
          clear hD hg1 hg2
          go_wp2_with fail
          refine (encode_any _ _ _ (decPr l) _ (T.below C5.out) Q9.out FQ.out).mono ?_
          rintro e u6 ⟨sv, rfl, hown, hb⟩
          rw [encX_good HG2.out, HE2.out] at hown
          rw [HG2.out]
          have C6 := Lib.hid (down_call C5.out hb)
          have S6 := S9.out.below hb S9.out.lt
          have BY6 := Lib.hid (BY9.out.below hb)
          have Q6 := Lib.hid (Q9.out.below hb)
          have NB := Lib.hid (bySl.own hown rfl)
          obtain ⟨sa6, sc6, rfl⟩ := owns_slice hown
          have v0 : u6.cell? ⟨u5.heap.size, 0, none⟩ = some (.slice k19 (decPr l).1.length l19) := (S6.cell 0).trans rfl
          have v1 : u6.cell? ⟨u5.heap.size, 1, none⟩ = some (.slice k29 (decPr l).2.1.length l29) := (S6.cell 1).trans rfl
          have v2 : u6.cell? ⟨u5.heap.size, 2, none⟩ = some (.slice k39 (decPr l).2.2.length l39) := (S6.cell 2).trans rfl
          clear hown hb S6 y0 y1 y2
          go_wp2_with fail
          refine (keepBytes_any NB.out BY6.out LB.out LB.out).mono ?_
          rintro e u7 ⟨rfl, rfl⟩
          rw [show decide (l = l) = true from decide_eq_true rfl]
          go_wp2_with fail
          refine (codeGood_is HG2.out _ _ _ _ (T.op.below C6.out) Q6.out FQ.out).mono ?_
          rintro e u8 ⟨rfl, hb⟩
          have C8 := Lib.hid (down_call C6.out hb)
          go_wp2_with fail
          refine (wakes_any _ (T.below C8.out)).mono ?_
          rintro e u9 ⟨rfl, hb⟩
          have C9 := Lib.hid (down_call C8.out hb)
          go_wp2_with fail
          go_ret
          exact ⟨rfl, C9.out⟩
    · have hl6' : (6000 : Int) < l.length := by omega
      go_wp2_with fail
      refine (wakes_any _ (T.below B1.out)).mono ?_
      rintro e w2 ⟨rfl, hb⟩
      have B2 := Lib.hid (down_call B1.out hb)
      go_wp2_with fail
      go_ret
      exact ⟨rfl, B2.out⟩
  · go_wp2_with fail
    refine (wakes_any _ (T.below B1.out)).mono ?_
    rintro e w2 ⟨rfl, hb⟩
    have B2 := Lib.hid (down_call B1.out hb)
    go_wp2_with fail
    go_ret
    exact ⟨rfl, B2.out⟩

theorem contract (H : Type) (enc : TypeId × Value → H) (W : World) (base : Nat) (args : Array Value) (ds gs : List (DataW H)) (before : List MemPlace)
    (hval0 : ∀ (j : Nat) t v, Tryd.f4.params[j]? = some t → args[j]? = some v → Value.okWide Tryd.prog W .any base t v)
    (hW : DataW.Whole enc Tryd.prog Tryd.f4.params.toList Rows.codeBackSpec.vars false W args.toList ds gs before)
    (T : CoTab W)
    (hz : (DataW.weightsEach Tryd.prog (Tryd.f4.params.toList ++ Rows.codeBackSpec.plain.varTypes Tryd.prog) (ds ++ gs)).all (· ≤ reachBytes) = true) :
    Calls Tryd.prog 4 args W fun e W' => ∃ v, e = .returned v ∧ Rows.codeBackSpec.post enc Tryd.prog Tryd.f4 false true false false W args v W' := by
  have hW' := hW
  have hval := hval0
  obtain ⟨p, q, hA0, hV, rfl, hfz, hnd⟩ := hW
  have hA : DataW.TrodAll enc Tryd.prog W 0 (fun _ => true) true Tryd.f4.params.toList args.toList ds p := hA0
  rw [Tryd.params4] at hA hval
  obtain ⟨rfl, rfl⟩ := trodVars_none hV
  have wb : ∀ (j : Nat) (t : TypeId) (d : DataW H), Tryd.f4.params[j]? = some t → ds[j]? = some d → WB Tryd.prog t d := fun j t d ht hd => wb_of hz (by simpa using ht) hd
  rw [Tryd.params4] at wb
  obtain ⟨v0, vs0, d0, ds0, p0, q0, hargs, rfl, rfl, h0, r0⟩ := trodAll_cons hA
  obtain ⟨v1, vs1, d1, ds1, p1, q1, rfl, rfl, rfl, h1, r1⟩ := trodAll_cons r0
  obtain ⟨v2, vs2, d2, ds2, p2, q2, rfl, rfl, rfl, h2, r2⟩ := trodAll_cons r1
  obtain ⟨rfl, rfl, rfl⟩ := trodAll_nil r2
  obtain rfl : args = #[v0, v1, v2] := by cases args; simp_all
  obtain ⟨u0_1, u0_2, u0_3, P0, rfl, hp0, hf0, n0_1, n0_2, n0_3, n0_4, n0_5⟩ := open_prog (wb 0 _ _ rfl rfl) (hval 0 26 v0 rfl rfl) h0
  obtain ⟨l1, hb1, hbd1, hbl1⟩ := open_bytes under_bytes (by kernel_rfl) (by kernel_rfl) (by decide +kernel) (wb 1 _ _ rfl rfl) (hval 1 27 v1 rfl rfl) h1
  obtain ⟨a2, rfl, rfl, rfl, w2⟩ := open_int Tryd.underlying5 (hval 2 5 v2 rfl rfl) h2
  refine (walk u0_1 u0_2 u0_3 P0 v1 l1 a2 W hp0 hf0 ⟨n0_1, n0_2, n0_3, n0_4, n0_5⟩ hb1 hbd1 hbl1 w2 T).mono fun e W' ⟨he, hb⟩ => ?_
  subst he
  exact ⟨_, rfl, law_post laidOut (by kernel_rfl) rfl (by kernel_rfl) Tryd.underlying4 hW' rfl rfl rfl hb⟩

theorem door_met (os : Os) (args : Array Value) : laidMetH Tryd.prog Rows.codeBackRow.laid ((World.doorLaid Tryd.prog 81 os).forCall (fun _ _ => 0) ⟨#[], args, []⟩).memory :=
  laidMetH_of_parts3 (fuel := 8) (laidMet_of_run' 8 (by kernel_rfl) (by kernel_rfl)) (by kernel_rfl) (by kernel_rfl)

set_option maxRecDepth 100000 in
theorem lifted (os : Os) (started : os.Started) (H : Type) (enc : TypeId × Value → H) :
    ReturnsInHanded {} Tryd.checked os 4 .any (fun w args => (Rows.codeBackSpec.pre enc Tryd.prog Tryd.f4 [] false w args ∧ laidMetH Tryd.prog Rows.codeBackRow.laid w) ∧ sizedMet enc Tryd.prog Tryd.f4 (OpenSpec.ofChange Rows.codeBackSpec) false w args)
      (Rows.codeBackSpec.post enc Tryd.prog Tryd.f4 false true false false) := by
  refine returnsInHanded_of_change_and (C := Tryd.checked) (X := fun w _ => laidMetH Tryd.prog Rows.codeBackRow.laid w) (fun _ _ _ hh h => h.of_heap hh) own started (by kernel_rfl) Tryd.func4
    (ChangeSpec.witness_shaped (enc := enc) (C := Tryd.checked) (os := os) (X := fun w _ => laidMetH Tryd.prog Rows.codeBackRow.laid w) false (World.doorLaid Tryd.prog 81 os) #[.agg #[.slice none 0 0, .slice none 0 0, .slice none 0 0], .slice none 0 0, .int .u8 0] 8 rfl (World.shaped_of_RefB (by kernel_rfl) (by kernel_rfl)) (by kernel_rfl) (by kernel_rfl) (by kernel_rfl) (door_met os _)) ?_
  intro W base args ds gs before hval hW _ hz hL _
  exact contract H enc W base args ds gs before hval hW (cotab_of (optab_of (laid_lies (by kernel_rfl) hL _ _ (List.Mem.head _)) (laid_lies (by kernel_rfl) hL _ _ (List.Mem.tail _ (List.Mem.head _))) (laid_lies (by kernel_rfl) hL _ _ (List.Mem.tail _ (List.Mem.tail _ (List.Mem.head _))))) (laid_lies (by kernel_rfl) hL _ _ (List.Mem.tail _ (List.Mem.tail _ (List.Mem.tail _ (List.Mem.head _))))) (laid_lies (by kernel_rfl) hL _ _ (List.Mem.tail _ (List.Mem.tail _ (List.Mem.tail _ (List.Mem.tail _ (List.Mem.head _))))))) hz

theorem over : Rows.codeBackRow.holds Tryd.pinned (OpenSpec.ofChange Rows.codeBackSpec) :=
  OpenClaim.holds_of_wide 4 Tryd.f4 rfl rfl rfl rfl rfl rfl rfl ⟨rfl, rfl, rfl, rfl, rfl⟩ rfl rfl rfl rfl rfl (by kernel_rfl) Tryd.func4 (by kernel_rfl)
    (of_decide_eq_true (by kernel_rfl)) (by unfold Func.isWrapper; first | (rw [if_pos (by decide +kernel)]; kernel_rfl) | (rw [if_neg (by decide +kernel)]; exact ⟨rfl, rfl⟩))
    (fun os started H enc _ => lifted os started H enc)

theorem proved : Rows.CodeBackCardSaid :=
  Claim7.holds_tied_plain_at .later [] [.data, .data, .data, .data, .data] true _ false
    over (fun _ h => by cases h) (by kernel_rfl) (fun _ h => by cases h) codeBack_row_tie rfl ⟨rfl, rfl⟩ (by kernel_rfl) rfl
    (fun f fn hf hfn => by
      obtain rfl : f = 4 := Option.some.inj ((show Tryd.prog.funcNamed "stockpot/stockpotlaw07.CodeBack" = some 4 by kernel_rfl).symm.trans hf) |>.symm
      obtain rfl : fn = Tryd.f4 := (Option.some.inj (Tryd.func4.symm.trans hfn)).symm
      exact ⟨by kernel_rfl, fun j t ht => by
        have hall : (Tryd.f4.params.toList.all fun u => !Tryd.prog.wantsStandIn u) = true := by kernel_rfl
        exact (show Tryd.prog.wantsStandIn t = false by simpa using List.all_eq_true.1 hall t (by simpa using Array.mem_of_getElem? ht))⟩)
    (by kernel_rfl)
#print axioms proved
end Go.Proofs.YtabdbciebhmflaaDoor.codeBack
