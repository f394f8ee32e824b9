/-
  For every slice of sizes and every n the law ArenaLeast returns true, and its arguments read as they did. Conditions: none.
-/
import Derived.Test.YthpkobogphegjaaWakesB
import Derived.Test.YthpkobogphegjaaArgs
namespace Go.Proofs.Ythpkobogphegjaa.arenaLeast
open Go.ChangeShapes Go.WideShapes Go.ChangeAt Go.RowKit
set_option linter.unusedVariables false

theorem own : ownKnob Try.prog.godebug = none := by kernel_rfl
theorem laidOut : laidOutB Try.prog = true := by kernel_rfl

theorem findR_take : ∀ (rs : List (Nat × Nat)) (i : Nat) (k : Int), findR rs k = none → findR (rs.take i) k = none
  | [], i, _, _ => by simp [findR]
  | r :: rs, 0, _, _ => by simp [findR]
  | r :: rs, i + 1, k, h => by
    simp only [List.take_succ_cons, findR] at h ⊢
    split at h
    · cases h
    · rename_i hk
      rw [if_neg hk]
      exact findR_take rs i k h
theorem dropR_insert : ∀ (l l2 : List (Nat × Nat)) (x : Nat × Nat), findR l (x.1 : Int) = none → dropR (l ++ x :: l2) (x.1 : Int) = l ++ l2
  | [], l2, x, _ => by simp [dropR]
  | r :: l, l2, x, h => by
    unfold findR at h
    split at h
    · cases h
    · rename_i hk
      simp only [List.cons_append, dropR]
      rw [if_neg hk, dropR_insert l l2 x h]

theorem has_bounds {A : Ar} {k : Int} (hh : A.has k = true) : 1 ≤ k ∧ k ≤ (A.ws.length : Int) - A.at k := by simpa [Ar.has] using hh
theorem cutAt_of {A : Ar} {k : Int} (hh : A.has k = true) : A.cutAt k = A.at k := by simp [Ar.cutAt, hh]
theorem cut_there {A : Ar} (h : A.Ok) {k : Int} (hh : A.has k = true) : (A.cut k).there (A.cutAt k) = true := by
  have := (h.cutted hh).2.2 (A.at k)
  simp only [Ar.cut, hh, if_true, Ar.cutAt, Ar.there, this, if_true]
  rfl
theorem cut_length (A : Ar) (k : Int) : (A.cut k).ws.length = A.ws.length := by
  unfold Ar.cut
  split
  · rename_i hh; exact Ar.length_cutted hh
  · rfl
theorem cut_back {A : Ar} (h : A.Ok) {k : Int} (hh : A.has k = true) : ((A.cut k).free (A.cutAt k)).rs = A.rs := by
  obtain ⟨_, hn, _⟩ := h.cutted hh
  simp only [Ar.cut, hh, if_true, Ar.cutAt, Ar.free, Ar.cutted]
  rw [dropR_insert (A.rs.take (A.idx k)) _ (A.at k, k.toNat) (findR_take _ _ _ hn), List.take_append_drop]
theorem cut_again {A : Ar} (h : A.Ok) {k : Int} (hh : A.has k = true) :
    ((A.cut k).free (A.cutAt k)).cutAt k = A.cutAt k ∧ ((A.cut k).free (A.cutAt k)).has k = true ∧ (((A.cut k).free (A.cutAt k)).cut k).rs.length = A.rs.length + 1 := by
  have e := cut_back h hh
  have el : ((A.cut k).free (A.cutAt k)).ws.length = A.ws.length := cut_length A k
  have ea : ((A.cut k).free (A.cutAt k)).at k = A.at k := by unfold Ar.at; rw [e]
  have ei : ((A.cut k).free (A.cutAt k)).idx k = A.idx k := by unfold Ar.idx; rw [e]
  have e2 : ((A.cut k).free (A.cutAt k)).has k = true := by
    rw [← hh]; unfold Ar.has; rw [el, ea]
  refine ⟨by rw [cutAt_of e2, ea, cutAt_of hh], e2, ?_⟩
  have hb := (h.at_le (has_bounds hh).1).2
  conv => lhs; rw [Ar.cut, if_pos e2]
  unfold Ar.cutted
  simp only
  rw [ei, e]
  simp
  omega

/-- How far the search for the least place has come. -/
def Seen (A : Ar) (k : Int) (i lo : Nat) (t : Int) : Prop :=
  lo ≤ A.ws.length ∧ ((t = -1 ∧ i ≤ A.rs.length ∧ roomAt k A.rs 0 = ((roomAt k (A.rs.drop i) lo).1, (roomAt k (A.rs.drop i) lo).2 + i)) ∨ (t = -1 ∧ i = A.rs.length + 1 ∧ A.has k = false) ∨ (t = A.at k ∧ A.has k = true))
theorem seen_start (A : Ar) (k : Int) : Seen A k 0 0 (-1) := ⟨Nat.zero_le _, .inl ⟨rfl, Nat.zero_le _, by simp⟩⟩
theorem seen_here {A : Ar} (h : A.Ok) {k : Int} (hk : 1 ≤ k) {i lo : Nat} (hi : i < A.rs.length) (hs : roomAt k A.rs 0 = ((roomAt k (A.rs.drop i) lo).1, (roomAt k (A.rs.drop i) lo).2 + i)) (hf : k ≤ (A.rs[i].1 : Int) - lo) :
    (lo : Int) = A.at k ∧ A.has k = true := by
  have e : A.at k = lo := by unfold Ar.at; rw [hs, roomAt_here k hi hf]
  have hg := h.chain.get i hi
  refine ⟨by rw [e], ?_⟩
  simp only [Ar.has, e, decide_eq_true_eq]
  omega
theorem seen_more {A : Ar} {k : Int} {i lo : Nat} (hi : i < A.rs.length) (hs : roomAt k A.rs 0 = ((roomAt k (A.rs.drop i) lo).1, (roomAt k (A.rs.drop i) lo).2 + i)) (hf : ¬ k ≤ (A.rs[i].1 : Int) - lo) :
    roomAt k A.rs 0 = ((roomAt k (A.rs.drop (i + 1)) (A.rs[i].1 + A.rs[i].2)).1, (roomAt k (A.rs.drop (i + 1)) (A.rs[i].1 + A.rs[i].2)).2 + (i + 1)) := by
  rw [hs, roomAt_more k hi hf]
  simp
  omega
theorem seen_end {A : Ar} {k : Int} {lo : Nat} (hk : 1 ≤ k) (hs : roomAt k A.rs 0 = ((roomAt k (A.rs.drop A.rs.length) lo).1, (roomAt k (A.rs.drop A.rs.length) lo).2 + A.rs.length)) :
    A.at k = lo ∧ A.has k = decide (k ≤ (A.ws.length : Int) - lo) := by
  have e : A.at k = lo := by unfold Ar.at; rw [hs]; simp [roomAt]
  refine ⟨e, ?_⟩
  simp only [Ar.has, e, hk, true_and]

set_option maxHeartbeats 4000000 in
set_option maxRecDepth 100000 in
theorem walk (v0 : Value) (xs0 : List Int) (a1 : Int) (w : World) (hr : readsAt w v0 xs0.length (xs0.map (Value.int .u8))) (hx : ∀ x ∈ xs0, (Lit.int .u8 x).wf = true) (hm : xs0.length ≤ maxLen) (w1 : (Lit.int .u8 a1).wf = true) :
    Calls Try.prog 5 #[v0, .int .u8 a1] w fun e w' => e = .returned (.bool true) ∧ Below w.heap.size w w' := by
  unfold maxLen at hm
  obtain ⟨a, c, rfl, ha⟩ := hr
  have hb1 := bounds_u8 w1
  by_cases hn : 12 < xs0.length
  · generalize xs0.length = n at *
    clear ha hx
    go_enter Try.func5, Try.ntmps5
    go_wp2_with fail
    refine (new_h (n := 300) (by decide) (by decide)).mono ?_
    rintro e w1 ⟨p, F1, rfl, h1, s1⟩
    go_wp2_with fail
    refine (wakes_any _).mono ?_
    rintro e w2 ⟨rfl, b2⟩
    go_wp2
    go_ret
    exact ⟨rfl, below_chain s1.below b2⟩
  · have hn12 : xs0.length ≤ 12 := by omega
    have HA : Hid (xs0.length = 0 ∨ ∃ b o, a = some ⟨b, o, none⟩ ∧ b < w.heap.size ∧ ∀ j u, (xs0.map (Value.int .u8))[j]? = some u → w.cell? ⟨b, o + j, none⟩ = some u) := by
      rcases ha with h | ⟨b, o, rfl, h⟩
      · exact .inl h
      · by_cases h0 : xs0.length = 0
        · exact .inl h0
        · exact .inr ⟨b, o, rfl, World.block_lt_of_cell? w ⟨b, o + 0, none⟩ (h 0 (.int .u8 (xs0[0]'(by omega))) (by simp)), h⟩
    have HX : Hid (∀ x ∈ xs0, (Lit.int .u8 x).wf = true) := hx
    clear ha hx hn
    go_enter Try.func5, Try.ntmps5
    go_wp2_with fail
    refine (new_h (n := 300) (by decide) (by decide)).mono ?_
    rintro e w1 ⟨p, F1, rfl, h1, s1⟩
    go_wp2
    go_loopw [7] (fun i wr => ∃ (k : Nat) (A : Ar) (F : Nat → Prop), k ≤ xs0.length ∧ i = .int .i64 k ∧ Hid (Held wr p F A ∧ A.ws.length = 300) ∧ Step (fun _ => False) F w wr) (fun i _ => xs0.length - (intOf i).toNat)
    case atStart => exact ⟨0, _, _, Nat.zero_le _, rfl, ⟨h1, rfl⟩, s1⟩
    case round =>
      clear h1 s1
      obtain ⟨k, A, F, hk, rfl, HH, s3⟩ := hrel
      by_cases hlt : k < xs0.length
      · rcases HA.out with h0 | ⟨b, o, rfl, hbl, hc⟩
        · omega
        have e1 : wr.cell? ⟨b, o + k, none⟩ = some (.int .u8 xs0[k]) := (s3.below.cell (p := ⟨b, o + k, none⟩) hbl).trans (hc k _ (by simp [hlt]))
        obtain ⟨y1, y2⟩ := bounds_u8 (HX.out _ (List.getElem_mem hlt))
        have HC : Hid (∀ j u, (xs0.map (Value.int .u8))[j]? = some u → w.cell? ⟨b, o + j, none⟩ = some u) := hc
        clear hc
        have hq : 1 + xs0[k] % 50 ≤ 9223372036854775807 := by omega
        go_wp2_with fail
        refine (cut_h HH.out.1 (1 + xs0[k] % 50) hq).mono ?_
        rintro e w4 ⟨rfl, G, h4, s4⟩
        have hl4 : (A.cut (1 + xs0[k] % 50)).ws.length = 300 := by rw [cut_length]; exact HH.out.2
        have s5 := s3.chain s4
        have e2 : w4.cell? ⟨b, o + k, none⟩ = some (.int .u8 xs0[k]) := (s5.below.cell (p := ⟨b, o + k, none⟩) hbl).trans (HC.out k _ (by simp [hlt]))
        have hok := HH.out.1.ok
        cases hh : A.has (1 + xs0[k] % 50) with
        | false =>
          have HH4 : Hid (Held w4 p G (A.cut (1 + xs0[k] % 50)) ∧ (A.cut (1 + xs0[k] % 50)).ws.length = 300) := ⟨h4, hl4⟩
          clear hh h4 hl4 s4 s3 e1
          go_wp2
          go_roundw
          case rel => exact ⟨k + 1, _, _, by omega, by go_num, HH4.out, s5⟩
          case measure => simp [intOf]; omega
        | true =>
          by_cases h3 : xs0[k] % 3 = 0
          · have d3 : (xs0[k] % 3 == 0) = true := by simpa using h3
            have ht := cut_there hok hh
            have HT := Lib.hid ht
            clear h3 hh ht e1
            go_wp2_with fail
            refine (free_h h4 (A.cutAt (1 + xs0[k] % 50))).mono ?_
            rintro e w5 ⟨rfl, h5, s6⟩
            rw [HT.out]
            have HH5 : Hid (Held w5 p G ((A.cut (1 + xs0[k] % 50)).free (A.cutAt (1 + xs0[k] % 50))) ∧ ((A.cut (1 + xs0[k] % 50)).free (A.cutAt (1 + xs0[k] % 50))).ws.length = 300) := ⟨h5, hl4⟩
            have s7 := s5.chain s6
            clear h4 h5 hl4 s3 s4 s5 s6
            go_wp2
            go_roundw
            case rel => exact ⟨k + 1, _, _, by omega, by go_num, HH5.out, s7⟩
            case measure => simp [intOf]; omega
          · have d3 : (xs0[k] % 3 == 0) = false := by simpa using h3
            have HH4 : Hid (Held w4 p G (A.cut (1 + xs0[k] % 50)) ∧ (A.cut (1 + xs0[k] % 50)).ws.length = 300) := ⟨h4, hl4⟩
            clear h3 hh h4 hl4 s4 s3 e1
            go_wp2
            go_roundw
            case rel => exact ⟨k + 1, _, _, by omega, by go_num, HH4.out, s5⟩
            case measure => simp [intOf]; omega
      · obtain ⟨h3, hl3⟩ := HH.out
        clear HA HX HH
        have hkk : ∃ kk, kk = 1 + a1 % 50 := ⟨_, rfl⟩
        have hq1 : 1 ≤ 1 + a1 % 50 := by omega
        have hq2 : 1 + a1 % 50 ≤ 50 := by omega
        go_wp2_with fail
        refine (regions_h h3).mono ?_
        rintro e w4 ⟨v2, rfl, o4, b4⟩
        have h4 := h3.below b4
        have s4 := s3.chain (Step.of_below b4)
        clear hkk
        generalize 1 + a1 % 50 = kk at *
        obtain ⟨a2, c2, rfl, ha2⟩ := readsAt.of_owns o4
        have hok := h3.ok
        have H4 := Lib.hid h4
        have HL := Lib.hid hl3
        have hlen := hok.chain.len
        have hL : A.rs.length ≤ 300 := by omega
        have HP : Hid (A.rs.length = 0 ∨ ∃ b o, a2 = some ⟨b, o, none⟩ ∧ ∀ j u, (pairs A.rs)[j]? = some u → w4.cell? ⟨b, o + j, none⟩ = some u) := ha2
        clear h3 h4 o4 b4 s3 ha2 hlen hl3
        have S4 := Lib.hid s4
        clear s4
        go_wp2
        obtain ⟨wo, rfl⟩ : ∃ wo : World, wo = wr := ⟨_, rfl⟩
        go_loopw [12, 13, 14] (fun u t i wr => ∃ (j lo : Nat) (t' : Int) (q : Nat), j ≤ A.rs.length + 1 ∧ i = .int .i64 j ∧ u = .int .i64 lo ∧ t = .int .i64 t' ∧ Hid (Seen A kk j lo t') ∧ wr = w4.drewN q) (fun _ _ i _ => A.rs.length + 1 - (intOf i).toNat)
        case atStart => exact ⟨0, 0, -1, 0, Nat.zero_le _, rfl, rfl, rfl, seen_start A kk, rfl⟩
        case round =>
          obtain ⟨j, lo, t', q, hj, rfl, rfl, rfl, HS, rfl⟩ := hrel
          have hlo : lo ≤ 300 := by have := HS.out.1; have := HL.out; omega
          by_cases hlt2 : j < A.rs.length
          · rcases HP.out with h0 | ⟨b2, o2, rfl, hc⟩
            · omega
            obtain ⟨q1, q2⟩ := pairsL_get (pairI A.rs) j (by simpa [pairI] using hlt2)
            rw [← pairs_pairI] at q1 q2
            have e1 : w4.cell? ⟨b2, o2 + j * 2, none⟩ = some (.int .i64 (A.rs[j].1 : Int)) := by
              have := hc _ _ q1
              simpa [pairI] using this
            have e2 : w4.cell? ⟨b2, o2 + j * 2 + 1, none⟩ = some (.int .i64 (A.rs[j].2 : Int)) := by
              have := hc _ _ q2
              simpa [pairI, Nat.add_assoc] using this
            clear q1 q2 hc HP
            obtain ⟨g1, g2, g3, g4⟩ := hok.chain.get j hlt2
            have g5 : A.rs[j].1 + A.rs[j].2 ≤ 300 := by have := HL.out; omega
            clear g4
            rcases HS.out with ⟨_, ⟨rfl, hjl, hroom⟩ | ⟨_, h9, _⟩ | ⟨rfl, hh⟩⟩
            · by_cases hf : kk ≤ (A.rs[j].1 : Int) - lo
              · have hs := seen_here hok hq1 hlt2 hroom hf
                have HN : Hid (Seen A kk (j + 1) (A.rs[j].1 + A.rs[j].2) (lo : Int)) := ⟨by have := HL.out; omega, .inr (.inr hs)⟩
                clear hs hroom HS g3
                go_wp2
                go_quiet (fail)
                go_wp2
                go_roundw
                case rel => exact ⟨j + 1, A.rs[j].1 + A.rs[j].2, (lo : Int), _, by omega, by go_num, by go_num, rfl, HN.out, rfl⟩
                case measure => simp [intOf]; omega
              · have hs := seen_more hlt2 hroom hf
                have HN : Hid (Seen A kk (j + 1) (A.rs[j].1 + A.rs[j].2) (-1)) := ⟨by have := HL.out; omega, .inl ⟨rfl, by omega, hs⟩⟩
                clear hs hroom HS g3
                go_wp2
                go_quiet (fail)
                go_wp2
                go_roundw
                case rel => exact ⟨j + 1, A.rs[j].1 + A.rs[j].2, -1, _, by omega, by go_num, by go_num, rfl, HN.out, rfl⟩
                case measure => simp [intOf]; omega
            · omega
            · have HN : Hid (Seen A kk (j + 1) (A.rs[j].1 + A.rs[j].2) (A.at kk : Int)) := ⟨by have := HL.out; omega, .inr (.inr ⟨rfl, hh⟩)⟩
              clear hh HS g3
              go_wp2
              go_quiet (fail)
              go_wp2
              go_roundw
              case rel => exact ⟨j + 1, A.rs[j].1 + A.rs[j].2, (A.at kk : Int), _, by omega, by go_num, by go_num, rfl, HN.out, rfl⟩
              case measure => simp [intOf]; omega
          · by_cases hje : j = A.rs.length
            · subst hje
              clear HP
              rcases HS.out with ⟨_, ⟨rfl, hjl, hroom⟩ | ⟨_, h9, _⟩ | ⟨rfl, hh⟩⟩
              · obtain ⟨ea, eh⟩ := seen_end hq1 hroom
                rw [HL.out] at eh
                by_cases hf : kk ≤ 300 - (lo : Int)
                · have HN : Hid (Seen A kk (A.rs.length + 1) lo (lo : Int)) := ⟨by have := HL.out; omega, .inr (.inr ⟨by rw [ea], by rw [eh]; exact decide_eq_true hf⟩)⟩
                  clear ea eh hroom HS
                  go_wp2
                  go_roundw
                  case rel => exact ⟨A.rs.length + 1, lo, (lo : Int), _, by omega, by go_num, rfl, rfl, HN.out, rfl⟩
                  case measure => simp [intOf]
                · have HN : Hid (Seen A kk (A.rs.length + 1) lo (-1)) := ⟨by have := HL.out; omega, .inr (.inl ⟨rfl, rfl, by rw [eh]; exact decide_eq_false hf⟩)⟩
                  clear ea eh hroom HS
                  go_wp2
                  go_roundw
                  case rel => exact ⟨A.rs.length + 1, lo, -1, _, by omega, by go_num, rfl, rfl, HN.out, rfl⟩
                  case measure => simp [intOf]
              · omega
              · have HN : Hid (Seen A kk (A.rs.length + 1) lo (A.at kk : Int)) := ⟨by have := HL.out; omega, .inr (.inr ⟨rfl, hh⟩)⟩
                clear hh HS
                go_wp2
                go_roundw
                case rel => exact ⟨A.rs.length + 1, lo, (A.at kk : Int), _, by omega, by go_num, rfl, rfl, HN.out, rfl⟩
                case measure => simp [intOf]
            · obtain rfl : j = A.rs.length + 1 := by omega
              have h4 : Held (w4.drewN q) p F A := H4.out.upon (Upon.drewN (fun _ => False) w4 q) fun _ _ h => h
              have s4 : Step (fun _ => False) F w (w4.drewN q) := S4.out.chain (Step.of_below (below_draws (Below.refl _ _) q))
              have hsz := s4.below.size
              rcases HS.out with ⟨_, ⟨_, hjl, _⟩ | ⟨rfl, _, hh⟩ | ⟨rfl, hh⟩⟩
              · omega
              · have ec : A.cut kk = A := by unfold Ar.cut; rw [hh]; rfl
                have ea : A.cutAt kk = 0 := by unfold Ar.cutAt; rw [hh]; rfl
                have EC := Lib.hid ec
                have EA := Lib.hid ea
                have EH := Lib.hid hh
                clear ec ea hh HS HP H4 S4
                go_wp2_with fail
                refine (cut_h h4 kk (by omega)).mono ?_
                rintro e w5 ⟨rfl, G, h5, s5⟩
                rw [EC.out] at h5
                rw [EA.out, EH.out]
                have s6 := s4.chain s5
                go_wp2_with fail
                refine (regions_h h5).mono ?_
                rintro e w6 ⟨v5, rfl, o6, b6⟩
                obtain ⟨a5, c5, rfl⟩ := owns_slice o6
                have b6' := below_chain s6.below b6
                clear o6 b6 h5 s5 s4 h4 s6
                go_wp2_with fail
                refine (wakes_any _).mono ?_
                rintro e w7 ⟨rfl, b7⟩
                go_wp2
                go_ret
                exact ⟨rfl, below_chain b6' b7⟩
              · have ea := cutAt_of hh
                have eth := cut_there hok hh
                obtain ⟨z1, z2, z3⟩ := cut_again hok hh
                have EA := Lib.hid ea
                have EH := Lib.hid hh
                have ET := Lib.hid eth
                have Z1 := Lib.hid z1
                have Z2 := Lib.hid z2
                have Z3 := Lib.hid z3
                clear ea hh eth z1 z2 z3 HS HP H4 S4
                go_wp2_with fail
                refine (cut_h h4 kk (by omega)).mono ?_
                rintro e w5 ⟨rfl, G, h5, s5⟩
                rw [EA.out, EH.out]
                have s6 := s4.chain s5
                go_wp2_with fail
                refine (free_h h5 (A.at kk)).mono ?_
                rintro e w6 ⟨rfl, h6, s7⟩
                rw [show (A.cut kk).there (A.at kk : Int) = true from by rw [← EA.out]; exact ET.out]
                rw [← EA.out] at h6
                have s8 := s6.chain s7
                go_wp2_with fail
                refine (cut_h h6 kk (by omega)).mono ?_
                rintro e w7 ⟨rfl, G7, h7, s9⟩
                rw [Z1.out, Z2.out, EA.out]
                have s10 := s8.chain s9
                clear s4 s5 s6 s7 s8 s9 h4 h5 h6
                go_wp2_with fail
                refine (regions_h h7).mono ?_
                rintro e w8 ⟨v5, rfl, o8, b8⟩
                rw [Z3.out] at o8
                obtain ⟨a5, c5, rfl⟩ := owns_slice o8
                have b8' := below_chain s10.below b8
                clear o8 b8 h7 s10
                have dl : (((A.rs.length + 1 : Nat) : Int) == (A.rs.length : Int) + 1) = true := by simp
                go_wp2_with fail
                refine (wakes_any _).mono ?_
                rintro e w9 ⟨rfl, b9⟩
                go_wp2
                go_ret
                exact ⟨rfl, below_chain b8' b9⟩

theorem contract (H : Type) (enc : TypeId × Value → H) (W : World) (base : Nat) (args : Array Value) (ds gs : List (DataW H)) (before : List MemPlace)
    (hval0 : ∀ (j : Nat) t v, Try.f5.params[j]? = some t → args[j]? = some v → Value.okWide Try.prog W .any base t v)
    (hW : DataW.Whole enc Try.prog Try.f5.params.toList Rows.arenaLeastSpec.vars false W args.toList ds gs before) :
    Calls Try.prog 5 args W fun e W' => ∃ v, e = .returned v ∧ Rows.arenaLeastSpec.post enc Try.prog Try.f5 false true false false W args v W' := by
  have hW' := hW
  have hval := hval0
  obtain ⟨p, q, hA0, hV, rfl, hfz, hnd⟩ := hW
  have hA : DataW.TrodAll enc Try.prog W 0 (fun _ => true) true Try.f5.params.toList args.toList ds p := hA0
  rw [Try.params5] at hA hval
  obtain ⟨rfl, rfl⟩ := trodVars_none hV
  obtain ⟨v0, vs0, d0, ds0, p0, q0, hargs, rfl, rfl, h0, r0⟩ := trodAll_cons hA
  obtain ⟨v1, vs1, d1, ds1, p1, q1, rfl, rfl, rfl, h1, r1⟩ := trodAll_cons r0
  obtain ⟨rfl, rfl, rfl⟩ := trodAll_nil r1
  obtain rfl : args = #[v0, v1] := by cases args; simp_all
  obtain ⟨xs0, hr0, hx0, hm0⟩ := open_slice_int Try.underlying54 Try.underlying5 (by kernel_rfl) (hval 0 54 v0 rfl rfl) h0
  obtain ⟨a1, rfl, rfl, rfl, w1⟩ := open_int Try.underlying5 (hval 1 5 v1 rfl rfl) h1
  refine (walk v0 xs0 a1 W hr0 hx0 hm0 w1).mono fun e W' ⟨he, hb⟩ => ?_
  subst he
  exact ⟨_, rfl, law_post laidOut (by kernel_rfl) rfl (by kernel_rfl) Try.underlying4 hW' rfl rfl rfl hb⟩

set_option maxRecDepth 100000 in
theorem lifted (os : Os) (started : os.Started) (H : Type) (enc : TypeId × Value → H) :
    ReturnsInHanded {} Try.checked os 5 .any (Rows.arenaLeastSpec.pre6 enc Try.prog Try.f5 Rows.arenaLeastRow.domain false) (Rows.arenaLeastSpec.post enc Try.prog Try.f5 false true false false) := by
  refine returnsInHanded_of_change (C := Try.checked) own started (by kernel_rfl) Try.func5
    (ChangeSpec.witness6 (enc := enc) (C := Try.checked) false ⟨#[], #[.slice none 0 0, .int .u8 0], []⟩ 8 (by kernel_rfl) (by kernel_rfl) (by kernel_rfl) (by kernel_rfl)) ?_
  intro W base args ds gs before hval hW _ _
  exact contract H enc W base args ds gs before hval hW

theorem over : Rows.arenaLeastRow.holds Try.pinned (OpenSpec.ofChange Rows.arenaLeastSpec) :=
  OpenClaim.holds_of_wide 5 Try.f5 rfl rfl rfl rfl rfl rfl rfl ⟨rfl, rfl, rfl, rfl, rfl⟩ rfl rfl rfl rfl rfl (by kernel_rfl) Try.func5 (by kernel_rfl)
    (of_decide_eq_true (by kernel_rfl)) (by unfold Func.isWrapper; first | (rw [if_pos (by decide +kernel)]; kernel_rfl) | (rw [if_neg (by decide +kernel)]; exact ⟨rfl, rfl⟩))
    (fun os started H enc _ => lifted os started H enc)

theorem proved : Rows.ArenaLeastSaid := over
#print axioms proved
end Go.Proofs.Ythpkobogphegjaa.arenaLeast
