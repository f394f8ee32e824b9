/-
  For every slice w of words the law ArenaOwn returns true, and its argument reads as it did. Conditions: none.
-/
import Derived.Test.YthpkobogphegjaaWakesB
import Derived.Test.YthpkobogphegjaaArgs
namespace Go.Proofs.Ythpkobogphegjaa.arenaOwn
open Go.ChangeShapes Go.WideShapes Go.ChangeAt Go.RowKit
set_option linter.unusedVariables false

theorem own : ownKnob Try.prog.godebug = none := by kernel_rfl
theorem laidOut : laidOutB Try.prog = true := by kernel_rfl

theorem new_cut {n : Nat} (h1 : 1 ≤ n) (h2 : n ≤ 100) : (Ar.new 100).cut n = ⟨List.replicate 100 0, [(0, n)]⟩ ∧ (Ar.new 100).cutAt n = 0 ∧ (Ar.new 100).has n = true := by
  have e1 : (Ar.new 100).at n = 0 := rfl
  have e2 : (Ar.new 100).idx n = 0 := rfl
  have hl : (Ar.new 100).ws.length = 100 := rfl
  have hh : (Ar.new 100).has n = true := by simp only [Ar.has, e1, hl, decide_eq_true_eq]; omega
  refine ⟨?_, by simp [Ar.cutAt, hh, e1], hh⟩
  simp only [Ar.cut, hh, if_true, Ar.cutted, e1, e2]
  simp only [Ar.new, List.take_zero, List.nil_append, List.drop_zero, Int.toNat_natCast, Nat.zero_add, List.drop_replicate, List.replicate_append_replicate]
  congr 2
  omega

def filled (n k : Nat) (xs : List Int) : Ar := ⟨xs.take k ++ List.replicate (100 - k) 0, [(0, n)]⟩
theorem filled_set {n k : Nat} {xs : List Int} (hk : k < n) (hn : n ≤ 100) (hx : xs.length = n) : (filled n k xs).set 0 k xs[k] = filled n (k + 1) xs := by
  have hi : (filled n k xs).inB 0 k = true := by simp [filled, Ar.inB, Ar.find, findR]; omega
  unfold Ar.set
  rw [if_pos hi]
  unfold filled
  simp only [Int.zero_add, Int.toNat_natCast]
  congr 1
  have hl : (xs.take k).length = k := by simp; omega
  rw [List.set_append_right _ _ (by omega), hl, Nat.sub_self]
  have e : List.replicate (100 - k) (0 : Int) = 0 :: List.replicate (100 - (k + 1)) 0 := by
    rw [← List.replicate_succ]; congr 1; omega
  rw [e, List.set_cons_zero, List.take_succ_eq_append_getElem (by omega)]
  simp only [List.append_assoc, List.cons_append, List.nil_append]
theorem filled_start (n : Nat) (xs : List Int) : filled n 0 xs = ⟨List.replicate 100 0, [(0, n)]⟩ := by unfold filled; simp only [List.take_zero, List.nil_append, Nat.sub_zero]
theorem filled_region {n : Nat} {xs : List Int} (hx : xs.length = n) (hn : n ≤ 100) : (filled n n xs).region 0 = xs := by
  have : List.take n (xs ++ List.replicate (100 - n) 0) = xs := by rw [List.take_append_of_le_length (by omega), List.take_of_length_le (by omega)]
  simp [filled, Ar.region, Ar.find, findR, List.take_of_length_le (show xs.length ≤ n by omega), this]
theorem filled_there (n k : Nat) (xs : List Int) : (filled n k xs).there 0 = true := by simp [filled, Ar.there, Ar.find, findR]

set_option maxHeartbeats 2000000 in
set_option maxRecDepth 100000 in
theorem walk (v0 : Value) (xs0 : List Int) (w : World) (hr : readsAt w v0 xs0.length (xs0.map (Value.int .u64))) (hx : ∀ x ∈ xs0, (Lit.int .u64 x).wf = true) (hm : xs0.length ≤ maxLen) :
    Calls Try.prog 6 #[v0] w fun e w' => e = .returned (.bool true) ∧ Below w.heap.size w w' := by
  unfold maxLen at hm
  obtain ⟨a, c, rfl, ha⟩ := hr
  by_cases hn : xs0.length = 0 ∨ 60 < xs0.length
  · clear ha hx
    rcases hn with hn | hn
    · rw [hn]
      clear hn hm
      go_enter Try.func6, Try.ntmps6
      go_wp2_with fail
      refine (new_h (n := 100) (by decide) (by decide)).mono ?_
      rintro e w1 ⟨p, F1, rfl, h1, s1⟩
      go_wp2_with fail
      refine (wakes_any _).mono ?_
      rintro e w2 ⟨rfl, b2⟩
      go_wp2
      go_ret
      exact ⟨rfl, below_chain s1.below b2⟩
    · have hn0 : ¬ xs0.length = 0 := by omega
      generalize xs0.length = n at *
      go_enter Try.func6, Try.ntmps6
      go_wp2_with fail
      refine (new_h (n := 100) (by decide) (by decide)).mono ?_
      rintro e w1 ⟨p, F1, rfl, h1, s1⟩
      go_wp2_with fail
      refine (wakes_any _).mono ?_
      rintro e w2 ⟨rfl, b2⟩
      go_wp2
      go_ret
      exact ⟨rfl, below_chain s1.below b2⟩
  · obtain ⟨b, o, rfl, hc⟩ := ha.resolve_left (by omega)
    have hn1 : 1 ≤ xs0.length := by omega
    have hn60 : xs0.length ≤ 60 := by omega
    have hn0 : ¬ xs0.length = 0 := by omega
    obtain ⟨k1, k2, k3⟩ := new_cut hn1 (show xs0.length ≤ 100 by omega)
    have K1 := Lib.hid k1
    have K2 := Lib.hid k2
    have K3 := Lib.hid k3
    have HC : Hid (∀ j u, (xs0.map (Value.int .u64))[j]? = some u → w.cell? ⟨b, o + j, none⟩ = some u) := hc
    have hbl : b < w.heap.size := World.block_lt_of_cell? w ⟨b, o + 0, none⟩ (hc 0 (.int .u64 xs0[0]) (by simp))
    have HX : Hid (∀ x ∈ xs0, (Lit.int .u64 x).wf = true) := hx
    clear k1 k2 k3 hc hx hn
    obtain ⟨n, hnn⟩ : ∃ n, n = xs0.length := ⟨_, rfl⟩
    have HN := Lib.hid hnn
    rw [← hnn] at hn1 hn60 hn0 hm ⊢
    clear hnn
    have d1 : decide (60 < (n : Int)) = false := decide_eq_false (by omega)
    have d2 : ((n : Int) == 0) = false := by simpa using hn0
    go_enter Try.func6, Try.ntmps6
    go_wp2_with fail
    refine (new_h (n := 100) (by decide) (by decide)).mono ?_
    rintro e w1 ⟨p, F1, rfl, h1, s1⟩
    go_wp2_with fail
    refine (cut_h h1 n (by clear d1 d2; omega)).mono ?_
    rintro e w2 ⟨rfl, F2, h2, s2⟩
    have hst := s1.chain s2
    rw [HN.out, K1.out, ← filled_start xs0.length xs0] at h2
    rw [show (Ar.new 100).cutAt n = 0 from by rw [HN.out]; exact K2.out, show (Ar.new 100).has n = true from by rw [HN.out]; exact K3.out]
    go_wp2
    go_loopw [7] (fun i wr => ∃ k : Nat, k ≤ n ∧ i = .int .i64 k ∧ Hid (Held wr p F2 (filled xs0.length k xs0)) ∧ Step (fun _ => False) F2 w wr) (fun i _ => n - (intOf i).toNat)
    case atStart => exact ⟨0, Nat.zero_le _, rfl, h2, hst⟩
    case round =>
      clear hst h2 s1 s2 h1
      obtain ⟨k, hk, rfl, H3, s3⟩ := hrel
      by_cases hlt : k < n
      · have hlx : k < xs0.length := by rw [← HN.out]; exact hlt
        have e1 : wr.cell? ⟨b, o + k, none⟩ = some (.int .u64 xs0[k]) := (s3.below.cell (p := ⟨b, o + k, none⟩) hbl).trans (HC.out k _ (by simp [hlx]))
        go_wp2_with fail
        refine (set_h H3.out 0 k xs0[k] (HX.out _ (List.getElem_mem hlx))).mono ?_
        rintro e w4 ⟨rfl, h4, s4⟩
        rw [filled_set hlx (by have := HN.out; omega) rfl] at h4
        have H4 := Lib.hid h4
        have s5 := s3.chain s4
        clear h4 s3 s4
        go_wp2
        go_roundw
        case rel => exact ⟨k + 1, by omega, by go_num, H4.out, s5⟩
        case measure => simp [intOf]; omega
      · obtain rfl : k = n := by omega
        have h3 : Held wr p F2 (filled xs0.length xs0.length xs0) := by
          have h := H3.out
          have e : k = xs0.length := HN.out
          rw [e] at h
          exact h
        clear H3
        go_wp2_with fail
        refine (words_h h3 0).mono ?_
        rintro e w4 ⟨v1, rfl, o4, b4⟩
        rw [filled_region rfl (by have := HN.out; omega)] at o4
        rw [filled_there]
        have h4 := h3.below b4
        have s4 := s3.chain (Step.of_below b4)
        go_wp2_with fail
        refine (regions_h h4).mono ?_
        rintro e w5 ⟨v2, rfl, o5, b5⟩
        have h5 := h4.below b5
        have s5 := s4.chain (Step.of_below b5)
        have hF : ∀ g, F2 g → g < wr.heap.size := h3.lt
        have o4' := owns_below o4 b5 fun g hg => (o4.lt g hg).2
        rw [show (filled xs0.length xs0.length xs0).rs.length = 1 from rfl, pairs_pairI, show pairI (filled xs0.length xs0.length xs0).rs = [(0, (xs0.length : Int))] from rfl] at o5
        rcases owns_parts o4' with ⟨_, h0, _⟩ | ⟨g1, cap1, rest1, rfl, hg1, r1, _⟩
        · have := HN.out; omega
        rcases owns_parts o5 with ⟨_, h0, _⟩ | ⟨g2, cap2, rest2, rfl, hg2, r2, _⟩
        · cases h0
        have hg12 : g2 ≠ g1 := by have := (o4.lt g1 rfl).2; omega
        have hz4 : wr.heap.size ≤ w4.heap.size := b4.size
        have hz5 : w4.heap.size ≤ w5.heap.size := b5.size
        rw [← HN.out]
        have R1 := Lib.hid r1
        have R2 := Lib.hid r2
        have H5 := Lib.hid h5
        have hbel5 : Below w.heap.size w w5 := s5.below
        have hz : w.heap.size ≤ wr.heap.size := s3.below.size
        clear o4 o4' o5 r1 r2 h3 h4 h5 b4 b5 s3 s4 s5
        obtain ⟨wo, rfl⟩ : ∃ wo : World, wo = wr := ⟨_, rfl⟩
        go_wp2
        go_loopw [11] (fun i wr2 => ∃ j ys, j ≤ k ∧ i = .int .i64 (j : Nat) ∧ Hid (ys.length = k ∧ rowAt wr2 g1 29 (words ys ++ rest1)) ∧ Upon (fun g => g = g1) w5 wr2) (fun i _ => k - (intOf i).toNat)
        case atStart => exact ⟨0, xs0, Nat.zero_le _, rfl, ⟨HN.out.symm, R1.out⟩, Upon.refl _ _⟩
        case round =>
          obtain ⟨j, ys, hj, rfl, HY, u5⟩ := hrel
          by_cases hlt2 : j < k
          · have hjy : j < ys.length := by rw [HY.out.1]; exact hlt2
            have e1 : wr.cell? ⟨g1, j, none⟩ = some (.int .u64 ys[j]) := by
              rw [HY.out.2.cell, List.getElem?_append_left (by simpa using hjy)]
              simp [hjy]
            have f1 := HY.out.2.free j
            have hnew : ∀ z, rowAt (wr.setCell ⟨g1, j, none⟩ (.int .u64 z)) g1 29 (words (ys.set j z) ++ rest1) := fun z => by
              have := HY.out.2.set j (.int .u64 z)
              rw [List.set_append_left _ _ (by simpa using hjy)] at this
              simpa [List.map_set] using this
            have HNEW := Lib.hid hnew
            have hup : ∀ z, Upon (fun g => g = g1) w5 (wr.setCell ⟨g1, j, none⟩ (.int .u64 z)) := fun z => u5.trans (Upon.setCell (S := fun g => g = g1) ⟨g1, j, none⟩ _ rfl) fun _ _ h => h
            have HUP := Lib.hid hup
            clear hnew hup
            go_wp2
            go_roundw
            case rel => exact ⟨j + 1, ys.set j _, by omega, by go_num, ⟨by rw [List.length_set]; exact HY.out.1, HNEW.out _⟩, HUP.out _⟩
            case measure => simp [intOf]; omega
          · obtain rfl : j = k := by omega
            have r2' := R2.out.upon u5 hg12
            have e1 : wr.cell? ⟨g2, 0, none⟩ = some (.int .i64 0) := by rw [r2'.cell]; rfl
            have e2 : wr.cell? ⟨g2, 1, none⟩ = some (.int .i64 (xs0.length : Int)) := by rw [r2'.cell]; rfl
            have f1 := r2'.free 0
            have f2 := r2'.free 1
            have u6 : Upon (fun g => g = g2) wr ((wr.setCell ⟨g2, 0, none⟩ (.int .i64 7)).setCell ⟨g2, 1, none⟩ (.int .i64 7)) := (Upon.setCell (S := fun g => g = g2) ⟨g2, 0, none⟩ _ rfl).trans (Upon.setCell (S := fun g => g = g2) ⟨g2, 1, none⟩ _ rfl) fun _ _ h => h
            have h6 := (H5.out.upon u5 fun g hg e => by have := hF g hg; omega).upon u6 fun g hg e => by have := hF g hg; omega
            have b6 : Below w.heap.size w ((wr.setCell ⟨g2, 0, none⟩ (.int .i64 7)).setCell ⟨g2, 1, none⟩ (.int .i64 7)) := hbel5.trans ((u5.belowB (by omega) fun g hg => by omega).trans (u6.belowB (by have := u5.size; omega) fun g hg => by omega))
            clear HY R1 R2 r2'
            go_wp2_with fail
            refine wp_loop_rounds 2 ?_
            rw [rounds_succ]
            go_wp2_with fail
            rw [rounds_succ]
            go_wp2_with fail
            refine (words_h h6 0).mono ?_
            rintro e w7 ⟨v3, rfl, o7, b7⟩
            rw [filled_region rfl (by have := HN.out; omega)] at o7
            rw [filled_there]
            have h7 := h6.below b7
            have b7' := b6.trans (b7.mono b6.size)
            have hrd : readsAt w7 (.slice (some ⟨b, o, none⟩) xs0.length c) xs0.length (words xs0) :=
              ⟨_, _, rfl, .inr ⟨b, o, rfl, fun q u hq => (b7'.cell (p := ⟨b, o + q, none⟩) hbl).trans (HC.out q u hq)⟩⟩
            have HRD := Lib.hid hrd
            have HO7 := Lib.hid o7
            clear hrd o7 b7 b6 h6 u6 u5 e1 e2 f1 f2
            go_wp2_with fail
            refine (keepWords_h (xs := xs0) (ys := xs0) (readsAt.of_owns HO7.out) (by rw [HN.out]; exact HRD.out) (by have := HN.out; omega) (b := true) (decide_eq_true rfl)).mono ?_
            rintro e w8 ⟨rfl, b8⟩
            have h8 := h7.below b8
            have b8' := b7'.trans (b8.mono b7'.size)
            clear h7 b8 b7'
            go_wp2_with fail
            refine (regions_h h8).mono ?_
            rintro e w9 ⟨v4, rfl, o9, b9⟩
            have b9' := b8'.trans (b9.mono b8'.size)
            rw [show (filled xs0.length xs0.length xs0).rs.length = 1 from rfl, pairs_pairI, show pairI (filled xs0.length xs0.length xs0).rs = [(0, (xs0.length : Int))] from rfl, ← HN.out] at o9
            clear h8 b9 b8'
            have hlit := readsAt.row (n := 1) (c := 1) (cs := [.int .i64 0, .int .i64 (j : Int)]) (rest := []) (rowAt.made w9 55 [.int .i64 0, .int .i64 (j : Int)])
            have HO9 := Lib.hid (o9.alloc (.cells #[.int .i64 0, .int .i64 (j : Int)] 55))
            have HLIT := Lib.hid hlit
            clear hlit o9
            go_wp2_with fail
            refine (keepPairs_h (xs := [(0, (j : Int))]) (ys := [(0, (j : Int))]) (readsAt.of_owns HO9.out) HLIT.out (by simp) (b := true) (decide_eq_true rfl)).mono ?_
            rintro e w10 ⟨rfl, b10⟩
            have b10' : Below w.heap.size w w10 := (b9'.alloc b9'.size _).trans (b10.mono (by have := b9'.size; simp; omega))
            clear b10 b9'
            go_wp2_with fail
            refine (wakes_any _).mono ?_
            rintro e w11 ⟨rfl, b11⟩
            go_wp2
            go_ret
            exact ⟨rfl, b10'.trans (b11.mono b10'.size)⟩

theorem contract (H : Type) (enc : TypeId × Value → H) (W : World) (base : Nat) (args : Array Value) (ds gs : List (DataW H)) (before : List MemPlace)
    (hval0 : ∀ (j : Nat) t v, Try.f6.params[j]? = some t → args[j]? = some v → Value.okWide Try.prog W .any base t v)
    (hW : DataW.Whole enc Try.prog Try.f6.params.toList Rows.arenaOwnSpec.vars false W args.toList ds gs before) :
    Calls Try.prog 6 args W fun e W' => ∃ v, e = .returned v ∧ Rows.arenaOwnSpec.post enc Try.prog Try.f6 false true false false W args v W' := by
  have hW' := hW
  have hval := hval0
  obtain ⟨p, q, hA0, hV, rfl, hfz, hnd⟩ := hW
  have hA : DataW.TrodAll enc Try.prog W 0 (fun _ => true) true Try.f6.params.toList args.toList ds p := hA0
  rw [Try.params6] at hA hval
  obtain ⟨rfl, rfl⟩ := trodVars_none hV
  obtain ⟨v0, vs0, d0, ds0, p0, q0, hargs, rfl, rfl, h0, r0⟩ := trodAll_cons hA
  obtain ⟨rfl, rfl, rfl⟩ := trodAll_nil r0
  obtain rfl : args = #[v0] := by cases args; simp_all
  obtain ⟨xs0, hr0, hx0, hm0⟩ := open_slice_int Try.underlying42 Try.underlying29 (by kernel_rfl) (hval 0 42 v0 rfl rfl) h0
  refine (walk v0 xs0 W hr0 hx0 hm0).mono fun e W' ⟨he, hb⟩ => ?_
  subst he
  exact ⟨_, rfl, law_post laidOut (by kernel_rfl) rfl (by kernel_rfl) Try.underlying4 hW' rfl rfl rfl hb⟩

set_option maxRecDepth 100000 in
theorem lifted (os : Os) (started : os.Started) (H : Type) (enc : TypeId × Value → H) :
    ReturnsInHanded {} Try.checked os 6 .any (Rows.arenaOwnSpec.pre6 enc Try.prog Try.f6 Rows.arenaOwnRow.domain false) (Rows.arenaOwnSpec.post enc Try.prog Try.f6 false true false false) := by
  refine returnsInHanded_of_change (C := Try.checked) own started (by kernel_rfl) Try.func6
    (ChangeSpec.witness6 (enc := enc) (C := Try.checked) false ⟨#[], #[.slice none 0 0], []⟩ 8 (by kernel_rfl) (by kernel_rfl) (by kernel_rfl) (by kernel_rfl)) ?_
  intro W base args ds gs before hval hW _ _
  exact contract H enc W base args ds gs before hval hW

theorem over : Rows.arenaOwnRow.holds Try.pinned (OpenSpec.ofChange Rows.arenaOwnSpec) :=
  OpenClaim.holds_of_wide 6 Try.f6 rfl rfl rfl rfl rfl rfl rfl ⟨rfl, rfl, rfl, rfl, rfl⟩ rfl rfl rfl rfl rfl (by kernel_rfl) Try.func6 (by kernel_rfl)
    (of_decide_eq_true (by kernel_rfl)) (by unfold Func.isWrapper; first | (rw [if_pos (by decide +kernel)]; kernel_rfl) | (rw [if_neg (by decide +kernel)]; exact ⟨rfl, rfl⟩))
    (fun os started H enc _ => lifted os started H enc)

theorem proved : Rows.ArenaOwnSaid := over
#print axioms proved
end Go.Proofs.Ythpkobogphegjaa.arenaOwn
