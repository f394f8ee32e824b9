/-
  Package code: the walk of the law CodeLengths.
  Conditions: as each states.
-/
import Derived.Test.YtabdbciebhmflaaDoorCoLs
import Derived.Test.YtabdbciebhmflaaDoorCoRh
namespace Go.Proofs.YtabdbciebhmflaaDoor
open Go.ChangeShapes Go.WideShapes Go.ChangeAt Go.RowKit
set_option linter.unusedVariables false
set_option linter.unusedSimpArgs false
set_option maxRecDepth 100000

/-- What the loops know: the sum so far. -/
def SumIs (P : PPr) (s t : Nat) : Prop := s = t ∧ t ≤ (encPr P).length

theorem byte_at {L : List Int} {j : Nat} {x : Int} (h : L[j]? = some x) (rest : List Value) : (bytesL L ++ rest)[j]? = some (.int .u8 x) := by
  obtain ⟨hj, e⟩ := List.getElem?_eq_some_iff.1 h
  rw [List.getElem?_append_left (by simpa using hj)]
  simp [h]

set_option maxHeartbeats 32000000 in
theorem lengths_walk (v1 v2 v3 : Value) (P : PPr) (w : World) (hp : prAt (fun _ => False) w v1 v2 v3 P) (hf : prF P) (hr : PRe P) (T : CoTab w) :
    Calls Tryd.prog 5 #[.agg #[v1, v2, v3]] w fun e w' => e = .returned (.bool true) ∧ Below w.heap.size w w' := by
  have HF := Lib.hid hf
  have HR := Lib.hid hr
  have HP := Lib.hid hp
  obtain ⟨⟨a1, c1, rfl, -⟩, ⟨a2, c2, rfl, -⟩, ⟨a3, c3, rfl, -⟩⟩ := hp
  obtain ⟨W0, hW0⟩ : ∃ W0, w.alloc (.cells #[.slice a1 P.1.length c1, .slice a2 P.2.1.length c2, .slice a3 P.2.2.length c3] 26) = W0 := ⟨_, rfl⟩
  have B0 := Lib.hid (show Below w.heap.size w W0 by rw [← hW0]; exact down_alloc (Below.refl _ _) _)
  have r0 : rowAt W0 w.heap.size 26 [.slice a1 P.1.length c1, .slice a2 P.2.1.length c2, .slice a3 P.2.2.length c3] := by rw [← hW0]; exact rowAt.made _ _ _
  have R0 := Lib.hid r0
  clear hf hr r0
  have x0 : W0.cell? ⟨w.heap.size, 0, none⟩ = some (.slice a1 P.1.length c1) := (R0.out.cell 0).trans rfl
  have x1 : W0.cell? ⟨w.heap.size, 1, none⟩ = some (.slice a2 P.2.1.length c2) := (R0.out.cell 1).trans rfl
  have x2 : W0.cell? ⟨w.heap.size, 2, none⟩ = some (.slice a3 P.2.2.length c3) := (R0.out.cell 2).trans rfl
  go_enter Tryd.func5, Tryd.ntmps5
  go_wp2_with fail
  clear hW0 x0 x1 x2
  refine (large_any (HP.out.below B0.out) HR.out HF.out.st).mono ?_
  rintro e w1 ⟨lg, rfl, -, hb⟩
  have B1 := Lib.hid (down_call B0.out hb)
  have R1 := Lib.hid (R0.out.below hb R0.out.lt)
  clear hb
  cases lg
  · have zz : w.heap.size < w1.heap.size := R1.out.lt
    have x0 : w1.cell? ⟨w.heap.size, 0, none⟩ = some (.slice a1 P.1.length c1) := (R1.out.cell 0).trans rfl
    have x1 : w1.cell? ⟨w.heap.size, 1, none⟩ = some (.slice a2 P.2.1.length c2) := (R1.out.cell 1).trans rfl
    have x2 : w1.cell? ⟨w.heap.size, 2, none⟩ = some (.slice a3 P.2.2.length c3) := (R1.out.cell 2).trans rfl
    go_wp2_with fail
    refine (encode_any _ _ _ P _ (T.below B1.out) (HP.out.below B1.out) HF.out).mono ?_
    rintro e w2 ⟨sv, rfl, hown, hb⟩
    have B2 := Lib.hid (down_call B1.out hb)
    have R2 := Lib.hid (R1.out.below hb R1.out.lt)
    clear hb x0 x1 x2
    have x0 : w2.cell? ⟨w.heap.size, 0, none⟩ = some (.slice a1 P.1.length c1) := (R2.out.cell 0).trans rfl
    have x1 : w2.cell? ⟨w.heap.size, 1, none⟩ = some (.slice a2 P.2.1.length c2) := (R2.out.cell 1).trans rfl
    have x2 : w2.cell? ⟨w.heap.size, 2, none⟩ = some (.slice a3 P.2.2.length c3) := (R2.out.cell 2).trans rfl
    cases hG : prG P
    · rw [encX_bad hG] at hown
      obtain ⟨sa, sc, rfl⟩ := owns_slice hown
      clear hown
      have HG := Lib.hid hG
      clear hG
      go_wp2_with fail
      refine (rgood_any _ _ _ P _ (HP.out.below B2.out) HF.out).mono ?_
      rintro e w3 ⟨rfl, hb⟩
      rw [HG.out]
      have B3 := Lib.hid (down_call B2.out hb)
      clear hb
      go_wp2_with fail
      refine (wakes_any _ (T.below B3.out)).mono ?_
      rintro e w4 ⟨rfl, hb⟩
      have B4 := Lib.hid (down_call B3.out hb)
      go_wp2_with fail
      go_ret
      exact ⟨rfl, B4.out⟩
    · rw [encX_good hG] at hown
      have HG := Lib.hid hG
      have SM := Lib.hid (encPr_sum P)
      obtain ⟨hl3, hl4⟩ := encPr_len hG
      have PG := Lib.hid (prG_parts hG)
      obtain ⟨L, hL⟩ : ∃ L, encPr P = L := ⟨_, rfl⟩
      have HL := Lib.hid hL
      rw [hL] at hown hl3 hl4 SM
      have BY := Lib.hid (bySl.own hown rfl)
      obtain ⟨g, cap, rest, rfl, hrow⟩ : ∃ g cap rest, sv = .slice (some ⟨g, 0, none⟩) L.length cap ∧ rowAt w2 g 5 (bytesL L ++ rest) := by
        rcases owns_parts hown with ⟨e, h1, h2⟩ | ⟨g, cap, rest, e, hg, hr, hl, hcap, hn, hm⟩
        · omega
        · exact ⟨g, cap, rest, e, hr⟩
      have F2 := Lib.hid (HP.out.below B2.out)
      have hp60 : P.1.length ≤ 60 := PG.out.1
      have hq40 : P.2.1.length ≤ 40 := PG.out.2.1
      have hm40 : P.2.2.length ≤ 40 := PG.out.2.2.1
      obtain ⟨j0, j1, j2⟩ := encPr_head P (by omega) (by omega) (by omega)
      rw [hL] at j0 j1 j2
      have z0 : w2.cell? ⟨g, 0, none⟩ = some (.int .u8 (P.1.length : Int)) := (hrow.cell 0).trans (byte_at j0 _)
      have z1 : w2.cell? ⟨g, 1, none⟩ = some (.int .u8 (P.2.1.length : Int)) := (hrow.cell 1).trans (byte_at j1 _)
      have z2 : w2.cell? ⟨g, 2, none⟩ = some (.int .u8 (P.2.2.length : Int)) := (hrow.cell 2).trans (byte_at j2 _)
      have hL3 : (3 : Int) ≤ L.length := by omega
      have w0' : IntKind.i64.wrap (P.1.length : Int) = P.1.length := IntWalk.i64_in _ (by omega)
      have w1' : IntKind.i64.wrap (P.2.1.length : Int) = P.2.1.length := IntWalk.i64_in _ (by omega)
      have w2' : IntKind.i64.wrap (P.2.2.length : Int) = P.2.2.length := IntWalk.i64_in _ (by omega)
      have hI1 : (1 : Int) < L.length := by omega
      have hI2 : (2 : Int) < L.length := by omega
      have hL0 : 0 < L.length := by omega
      have hL1 : 1 < L.length := by omega
      have hL2 : 2 < L.length := by omega
      clear hown hG hL j0 j1 j2 hrow
      go_wp2_with fail
      go_loop [5, 6] (fun n i => ∃ k s : Nat, k ≤ P.1.length ∧ i = .int .i64 k ∧ n = .int .i64 s ∧ Hid (s = 3 + lenTo fnN P.1 k)) (fun _ i => P.1.length - (intOf i).toNat)
      case atStart => exact ⟨0, 3, Nat.zero_le _, rfl, rfl, Lib.hid (by rw [lenTo_0])⟩
      case round =>
        obtain ⟨k, s, hk, rfl, rfl, HS⟩ := hrel
        -- FROM
        by_cases hlt : k < P.1.length
        · have hx := Lib.hid (List.getElem?_eq_getElem hlt)
          obtain ⟨fb, fo, rfl, ha⟩ : ∃ fb fo, a1 = some ⟨fb, fo, none⟩ ∧ fnAt (fun _ => False) w2 fb (fo + k * 3) P.1[k] := by
            obtain ⟨a', c', e, h⟩ := F2.out.1
            cases e
            rcases h with h0 | ⟨xb, xo, rfl, -, -, hc⟩
            · omega
            · exact ⟨xb, xo, rfl, hc k _ hx.out⟩
          have hfg := PG.out.2.2.2.1 P.1[k] (List.getElem_mem hlt)
          have HK := Lib.hid (lenTo_at fnN P.1 hx.out)
          have hk1 := lenTo_most fnN P.1 (show k + 1 ≤ P.1.length by omega)
          have hkI : (k : Int) < P.1.length := by omega
          generalize P.1[k] = f at *
          obtain ⟨loc, free, l⟩ := f
          obtain ⟨e1, e2, v, e3, hv⟩ := ha
          simp only at e1 e2 e3 hv
          obtain ⟨va, vc, rfl⟩ := hv.slice
          have HV := Lib.hid hv
          have hl600 : l.length ≤ 600 := (fnG_parts hfg).2.2.2.1
          have HGI := Lib.hid (show ∀ j x, l[j]? = some x → insG x = true from fun j x hj => (fnG_parts hfg).2.2.2.2 x (List.mem_of_getElem? hj))
          have hs4 : s + 4 + lenTo insN l l.length ≤ 400000 := by
            have e := SM.out
            have e' := HK.out
            have e'' := HS.out
            unfold fnN at e'
            simp only at e'
            rw [show (fun f : PFn => 4 + lenTo insN f.2.2 f.2.2.length) = fnN from rfl] at e'
            omega
          have hs5 : s ≤ 400000 := by omega
          clear hv e1 e2 hfg hk1
          go_wp2_with fail
          go_loop [5, 7] (fun n j => ∃ q t : Nat, q ≤ l.length ∧ j = .int .i64 q ∧ n = .int .i64 t ∧ Hid (t = s + 4 + lenTo insN l q)) (fun _ j => l.length - (intOf j).toNat)
          case atStart => exact ⟨0, s + 4, Nat.zero_le _, rfl, by go_num, Lib.hid (by rw [lenTo_0])⟩
          case round =>
            obtain ⟨q, t, hq, rfl, rfl, HT⟩ := hrel
            have hmost := lenTo_most insN l hq
            have ht4 : t ≤ 400000 := by rw [HT.out]; omega
            by_cases hqt : q < l.length
            · have hy := Lib.hid (List.getElem?_eq_getElem hqt)
              obtain ⟨xb, xo, rfl, hc⟩ : ∃ xb xo, va = some ⟨xb, xo, none⟩ ∧ ∀ j u, (insL l)[j]? = some u → w2.cell? ⟨xb, xo + j, none⟩ = some u := by
                obtain ⟨a', c', e, h⟩ := HV.out
                cases e
                rcases h with h0 | ⟨xb, xo, rfl, -, -, hc⟩
                · omega
                · exact ⟨xb, xo, rfl, hc⟩
              have y0 := hc _ _ (insL_get l q _ hy.out).1
              have hgi := HGI.out q _ hy.out
              have HN := Lib.hid (lenTo_at insN l hy.out)
              have hqI : (q : Int) < l.length := by omega
              clear hc hmost
              generalize l[q] = p at *
              obtain ⟨o, pa, pb⟩ := p
              simp only at y0
              rcases insN_cases hgi with ⟨hc, hv⟩ | ⟨hc, hv⟩ | ⟨hc, hv⟩ | ⟨hc, hv⟩ <;> rw [hv] at HN <;> clear hv hgi
              · rcases hc with rfl | rfl
                · skip
                  go_wp2_with fail
                  go_round
                  case rel => exact ⟨q + 1, t + 9, by omega, by go_num, by go_num, Lib.hid (by rw [HN.out, HT.out]; omega)⟩
                  case measure => simp [intOf]; omega
                · skip
                  go_wp2_with fail
                  go_round
                  case rel => exact ⟨q + 1, t + 9, by omega, by go_num, by go_num, Lib.hid (by rw [HN.out, HT.out]; omega)⟩
                  case measure => simp [intOf]; omega
              · rcases hc with rfl | rfl | rfl
                · skip
                  go_wp2_with fail
                  go_round
                  case rel => exact ⟨q + 1, t + 4, by omega, by go_num, by go_num, Lib.hid (by rw [HN.out, HT.out]; omega)⟩
                  case measure => simp [intOf]; omega
                · skip
                  go_wp2_with fail
                  go_round
                  case rel => exact ⟨q + 1, t + 4, by omega, by go_num, by go_num, Lib.hid (by rw [HN.out, HT.out]; omega)⟩
                  case measure => simp [intOf]; omega
                · skip
                  go_wp2_with fail
                  go_round
                  case rel => exact ⟨q + 1, t + 4, by omega, by go_num, by go_num, Lib.hid (by rw [HN.out, HT.out]; omega)⟩
                  case measure => simp [intOf]; omega
              · rcases hc with rfl | rfl | rfl | rfl | rfl | rfl | rfl | rfl | rfl
                · skip
                  go_wp2_with fail
                  go_round
                  case rel => exact ⟨q + 1, t + 3, by omega, by go_num, by go_num, Lib.hid (by rw [HN.out, HT.out]; omega)⟩
                  case measure => simp [intOf]; omega
                · skip
                  go_wp2_with fail
                  go_round
                  case rel => exact ⟨q + 1, t + 3, by omega, by go_num, by go_num, Lib.hid (by rw [HN.out, HT.out]; omega)⟩
                  case measure => simp [intOf]; omega
                · skip
                  go_wp2_with fail
                  go_round
                  case rel => exact ⟨q + 1, t + 3, by omega, by go_num, by go_num, Lib.hid (by rw [HN.out, HT.out]; omega)⟩
                  case measure => simp [intOf]; omega
                · skip
                  go_wp2_with fail
                  go_round
                  case rel => exact ⟨q + 1, t + 3, by omega, by go_num, by go_num, Lib.hid (by rw [HN.out, HT.out]; omega)⟩
                  case measure => simp [intOf]; omega
                · skip
                  go_wp2_with fail
                  go_round
                  case rel => exact ⟨q + 1, t + 3, by omega, by go_num, by go_num, Lib.hid (by rw [HN.out, HT.out]; omega)⟩
                  case measure => simp [intOf]; omega
                · skip
                  go_wp2_with fail
                  go_round
                  case rel => exact ⟨q + 1, t + 3, by omega, by go_num, by go_num, Lib.hid (by rw [HN.out, HT.out]; omega)⟩
                  case measure => simp [intOf]; omega
                · skip
                  go_wp2_with fail
                  go_round
                  case rel => exact ⟨q + 1, t + 3, by omega, by go_num, by go_num, Lib.hid (by rw [HN.out, HT.out]; omega)⟩
                  case measure => simp [intOf]; omega
                · skip
                  go_wp2_with fail
                  go_round
                  case rel => exact ⟨q + 1, t + 3, by omega, by go_num, by go_num, Lib.hid (by rw [HN.out, HT.out]; omega)⟩
                  case measure => simp [intOf]; omega
                · skip
                  go_wp2_with fail
                  go_round
                  case rel => exact ⟨q + 1, t + 3, by omega, by go_num, by go_num, Lib.hid (by rw [HN.out, HT.out]; omega)⟩
                  case measure => simp [intOf]; omega
              · obtain ⟨n0, n21, n6, n19, n36, n1, n2, n3, n4, n10, n11, n20, n22, n33⟩ := hc
                have m0 : (o == 0) = false := by rw [beq_eq_false_iff_ne]; exact n0
                have m21 : (o == 21) = false := by rw [beq_eq_false_iff_ne]; exact n21
                have m6 : (o == 6) = false := by rw [beq_eq_false_iff_ne]; exact n6
                have m19 : (o == 19) = false := by rw [beq_eq_false_iff_ne]; exact n19
                have m36 : (o == 36) = false := by rw [beq_eq_false_iff_ne]; exact n36
                have m1 : (o == 1) = false := by rw [beq_eq_false_iff_ne]; exact n1
                have m2 : (o == 2) = false := by rw [beq_eq_false_iff_ne]; exact n2
                have m3 : (o == 3) = false := by rw [beq_eq_false_iff_ne]; exact n3
                have m4 : (o == 4) = false := by rw [beq_eq_false_iff_ne]; exact n4
                have m10 : (o == 10) = false := by rw [beq_eq_false_iff_ne]; exact n10
                have m11 : (o == 11) = false := by rw [beq_eq_false_iff_ne]; exact n11
                have m20 : (o == 20) = false := by rw [beq_eq_false_iff_ne]; exact n20
                have m22 : (o == 22) = false := by rw [beq_eq_false_iff_ne]; exact n22
                have m33 : (o == 33) = false := by rw [beq_eq_false_iff_ne]; exact n33
                clear n0 n21 n6 n19 n36 n1 n2 n3 n4 n10 n11 n20 n22 n33
                go_wp2_with fail
                go_round
                case rel => exact ⟨q + 1, t + 1, by omega, by go_num, by go_num, Lib.hid (by rw [HN.out, HT.out]; omega)⟩
                case measure => simp [intOf]; omega
            · obtain rfl : q = l.length := by omega
              have E := Lib.hid (show t = 3 + lenTo fnN P.1 (k + 1) by rw [HT.out, HK.out, HS.out]; unfold fnN; simp only; omega)
              clear hmost
              go_wp2_with fail
              go_round
              case rel => exact ⟨k + 1, t, by omega, by go_num, by go_num, E⟩
              case measure => simp [intOf]; omega
        · obtain rfl : k = P.1.length := by omega
          have hs5 : s ≤ 400000 := by have e := SM.out; have e' := HS.out; omega
          have HS3 := Lib.hid (show s = 3 + lenTo fnN P.1 P.1.length from HS.out)
          clear hlt hk HS
          go_wp2_with fail
          go_loop [5, 8] (fun n i => ∃ k t : Nat, k ≤ P.2.1.length ∧ i = .int .i64 k ∧ n = .int .i64 t ∧ Hid (t = s + lenTo strN P.2.1 k)) (fun _ i => P.2.1.length - (intOf i).toNat)
          case atStart => exact ⟨0, s, Nat.zero_le _, rfl, rfl, Lib.hid (by rw [lenTo_0]; rfl)⟩
          case round =>
            obtain ⟨k, t, hk, rfl, rfl, HT⟩ := hrel
            have hmost := lenTo_most strN P.2.1 hk
            have ht4 : t ≤ 400000 := by have e := SM.out; have e' := HS3.out; rw [HT.out]; omega
            by_cases hlt : k < P.2.1.length
            · have hx := Lib.hid (List.getElem?_eq_getElem hlt)
              obtain ⟨xb, xo, rfl, y0⟩ : ∃ xb xo, a2 = some ⟨xb, xo, none⟩ ∧ w2.cell? ⟨xb, xo + k, none⟩ = some (.string P.2.1[k]) := by
                obtain ⟨a', c', e, h⟩ := F2.out.2.1
                cases e
                rcases h with h0 | ⟨xb, xo, rfl, -, -, hc⟩
                · omega
                · exact ⟨xb, xo, rfl, hc k _ (by simp [hlt])⟩
              have hsz := PG.out.2.2.2.2.1 P.2.1[k] (List.getElem_mem hlt)
              have HN := Lib.hid (lenTo_at strN P.2.1 hx.out)
              have hkI : (k : Int) < P.2.1.length := by omega
              clear hmost
              generalize P.2.1[k] = z at *
              go_wp2_with fail
              go_round
              case rel => exact ⟨k + 1, t + (1 + z.size), by omega, by go_num, by go_num, Lib.hid (by rw [HN.out, HT.out]; unfold strN; omega)⟩
              case measure => simp [intOf]; omega
            · obtain rfl : k = P.2.1.length := by omega
              have HT3 := Lib.hid (show t = 3 + lenTo fnN P.1 P.1.length + lenTo strN P.2.1 P.2.1.length by rw [HT.out, HS3.out])
              clear hlt hk hmost HT
              go_wp2_with fail
              go_loop [5, 9] (fun n i => ∃ k u : Nat, k ≤ P.2.2.length ∧ i = .int .i64 k ∧ n = .int .i64 u ∧ Hid (u = t + lenTo fmN P.2.2 k)) (fun _ i => P.2.2.length - (intOf i).toNat)
              case atStart => exact ⟨0, t, Nat.zero_le _, rfl, rfl, Lib.hid (by rw [lenTo_0]; rfl)⟩
              case round =>
                obtain ⟨k, u, hk, rfl, rfl, HU⟩ := hrel
                have hmost := lenTo_most fmN P.2.2 hk
                have hu4 : u ≤ 400000 := by have e := SM.out; have e' := HT3.out; rw [HU.out]; omega
                by_cases hlt : k < P.2.2.length
                · have hx := Lib.hid (List.getElem?_eq_getElem hlt)
                  obtain ⟨xb, xo, rfl, ha⟩ : ∃ xb xo, a3 = some ⟨xb, xo, none⟩ ∧ fmAt (fun _ => False) w2 xb (xo + k * 4) P.2.2[k] := by
                    obtain ⟨a', c', e, h⟩ := F2.out.2.2
                    cases e
                    rcases h with h0 | ⟨xb, xo, rfl, -, -, hc⟩
                    · omega
                    · exact ⟨xb, xo, rfl, hc k _ hx.out⟩
                  have hcl := fmG_cons (PG.out.2.2.2.2.2 P.2.2[k] (List.getElem_mem hlt))
                  have HN := Lib.hid (lenTo_at fmN P.2.2 hx.out)
                  have hkI : (k : Int) < P.2.2.length := by omega
                  clear hmost
                  generalize P.2.2[k] = m at *
                  obtain ⟨kd, ma, mb, cs⟩ := m
                  obtain ⟨f0, f1, f2, v, y0, hv⟩ := ha
                  simp only at y0 hv hcl
                  obtain ⟨va, vc, rfl⟩ := hv.slice
                  clear f0 f1 f2 hv
                  go_wp2_with fail
                  go_round
                  case rel => exact ⟨k + 1, u + (4 + cs.length), by omega, by go_num, by go_num, Lib.hid (by rw [HN.out, HU.out]; unfold fmN; simp only; omega)⟩
                  case measure => simp [intOf]; omega
                · obtain rfl : k = P.2.2.length := by omega
                  have hE : u = L.length := by rw [HU.out, HT3.out, SM.out]
                  have tE : ((L.length : Int) == (u : Int)) = true := by rw [beq_iff_eq, hE]
                  clear hlt hk hmost HU hE
                  go_wp2_with fail
                  refine wp_region_still_tail 35 (by kernel_rfl) (by kernel_rfl) ?_
                  simp only [List.take_succ_cons, List.take_zero, List.drop_succ_cons, List.drop_zero]
                  iterate 35 still_step
                  refine wpStill_nil ?_
                  change wpList _ _ _ _ _ w2.drew
                  go_wp2_with fail
                  refine (wakes_any _ ((T.below B2.out).below (below_draws (Below.refl _ _) 1))).mono ?_
                  rintro e w4 ⟨rfl, hb⟩
                  have B4 := Lib.hid (down_call (below_draws B2.out 1) hb)
                  go_wp2_with fail
                  go_ret
                  exact ⟨rfl, B4.out⟩
        -- TO
  · go_wp2_with fail
    refine (wakes_any _ (T.below B1.out)).mono ?_
    rintro e w2 ⟨rfl, hb⟩
    have B2 := Lib.hid (down_call B1.out hb)
    go_wp2_with fail
    go_ret
    exact ⟨rfl, B2.out⟩
end Go.Proofs.YtabdbciebhmflaaDoor
