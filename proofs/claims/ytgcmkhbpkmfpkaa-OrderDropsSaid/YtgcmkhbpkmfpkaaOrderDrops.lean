/-
  Proved of the Go function OrderDrops: it returns true for every argument (with one dropped the others come as they would have; pushed again with another rank it comes at its place). Conditions: none.
-/
import Derived.Test.YtgcmkhbpkmfpkaaArgsA
import Derived.Test.YtgcmkhbpkmfpkaaQW
namespace Go.Proofs.Ytgcmkhbpkmfpkaa.orderDrops
open Go.ChangeShapes Go.WideShapes Go.ChangeAt Go.RowKit
set_option linter.unusedVariables false
set_option linter.unusedSimpArgs false
set_option linter.unusedVariables false
set_option maxRecDepth 100000

theorem own : ownKnob Try.prog.godebug = none := by kernel_rfl
theorem laidOut : laidOutB Try.prog = true := by kernel_rfl

theorem pairs_cells {w : World} {v : Value} {n : Nat} {f : Nat → Nat → Int} (h : structsAt w v n [.i8, .i8] f) :
    ∃ a c, v = .slice a n c ∧ (∀ i, i < n → -128 ≤ f i 0 ∧ f i 0 ≤ 127 ∧ -128 ≤ f i 1 ∧ f i 1 ≤ 127) ∧
      ∀ i, i < n → ∃ b o, a = some ⟨b, o, none⟩ ∧ w.cell? ⟨b, o + i * 2, none⟩ = some (.int .i8 (f i 0)) ∧ w.cell? ⟨b, o + i * 2 + 1, none⟩ = some (.int .i8 (f i 1)) := by
  obtain ⟨a, c, rfl, h1, h2⟩ := h
  refine ⟨a, c, rfl, fun i hi => ?_, fun i hi => ?_⟩
  · have x := h1 i 0 .i8 hi rfl
    have y := h1 i 1 .i8 hi rfl
    simp [Lit.wf, IntKind.min, IntKind.max, IntKind.signed, IntKind.bits] at x y
    omega
  · rcases h2 with h2 | ⟨b, o, rfl, h2⟩
    · omega
    · have x := h2 i 0 .i8 hi rfl
      have y := h2 i 1 .i8 hi rfl
      exact ⟨b, o, rfl, x, y⟩
theorem wf8 {x : Int} (h : (Lit.int .i8 x).wf = true) : -128 ≤ x ∧ x ≤ 127 := by
  simp [Lit.wf, IntKind.min, IntKind.max, IntKind.signed, IntKind.bits] at h
  omega

/-- Two queues apart, both made since w. -/
structure Both (q p : Nat) (F G : Nat → Prop) (s t : List En) (w w' : World) : Prop where
  l : QH w' q F s
  r : QH w' p G t
  apart : ∀ x, F x → ¬ G x
  below : Below w.heap.size w w'
  lf : ∀ x, F x → w.heap.size ≤ x
  rf : ∀ x, G x → w.heap.size ≤ x
theorem Both.left {q p : Nat} {F F' G : Nat → Prop} {s s' t : List En} {w w1 w2 : World} (h : Both q p F G s t w w1) (hq : QH w2 q F' s') (hs : StepQ F F' w1 w2) : Both q p F' G s' t w w2 :=
  ⟨hq, h.r.upon hs.upon fun k hk hF => h.apart k hF hk, fun x hx hG => by
    rcases hs.foot x hx with hF | hn
    · exact h.apart x hF hG
    · have := h.r.lt x hG; omega, h.below.trans (hs.upon.belowB h.below.size h.lf), fun x hx => by
    rcases hs.foot x hx with hF | hn
    · exact h.lf x hF
    · exact Nat.le_trans h.below.size hn, h.rf⟩
theorem Both.right {q p : Nat} {F G G' : Nat → Prop} {s t t' : List En} {w w1 w2 : World} (h : Both q p F G s t w w1) (hq : QH w2 p G' t') (hs : StepQ G G' w1 w2) : Both q p F G' s t' w w2 :=
  ⟨h.l.upon hs.upon fun k hk hG => h.apart k hk hG, hq, fun x hF hx => by
    rcases hs.foot x hx with hG | hn
    · exact h.apart x hF hG
    · have := h.l.lt x hF; omega, h.below.trans (hs.upon.belowB h.below.size h.rf), h.lf, fun x hx => by
    rcases hs.foot x hx with hF | hn
    · exact h.rf x hF
    · exact Nat.le_trans h.below.size hn⟩
theorem Both.more {q p : Nat} {F G : Nat → Prop} {s t : List En} {w w1 w2 : World} (h : Both q p F G s t w w1) (hb : Below w1.heap.size w1 w2) : Both q p F G s t w w2 :=
  ⟨h.l.below hb, h.r.below hb, h.apart, h.below.trans (hb.mono h.below.size), h.lf, h.rf⟩
theorem Both.drew {q p : Nat} {F G : Nat → Prop} {s t : List En} {w w1 : World} (h : Both q p F G s t w w1) (n : Nat) : Both q p F G s t w (w1.drewN n) := h.more (below_draws (Below.refl _ _) n)

theorem big {w : World} {v : Value} {n : Nat} {f : Nat → Nat → Int} {a1 a2 : Int} (h : structsAt w v n [.i8, .i8] f) (hn : 40 < n) :
    Calls Try.prog 5 #[v, .int .i8 a1, .int .i8 a2] w fun e w' => e = .returned (.bool true) ∧ Below w.heap.size w w' := by
  obtain ⟨a, c, rfl, _⟩ := pairs_cells h
  clear h
  have h1 : (40 : Int) < n := by omega
  go_enter Try.func5, Try.ntmps5
  go_wp2_with fail
  refine (qnew_any w).mono ?_
  rintro x w1 ⟨q, F1, rfl, hq, s1⟩
  have S1 := Lib.hid s1
  clear hq s1
  go_wp2_with fail
  refine (qnew_any w1).mono ?_
  rintro x w2 ⟨p, F2, rfl, hp, s2⟩
  have S2 := Lib.hid s2
  clear hp s2
  go_wp2_with fail
  refine (wakes_any w2).mono ?_
  rintro x w3 ⟨rfl, hb⟩
  have HB := Lib.hid hb
  clear hb
  go_wp2_with fail
  go_ret
  exact ⟨rfl, below_chain (below_chain S1.out.below S2.out.below) HB.out⟩

theorem length_insE (e : En) (s : List En) : (insE e s).length = s.length + 1 := by rw [(insE_perm e s).length_eq]; rfl
abbrev but (k : Int) (s : List En) : List En := s.filter fun x => decide (x.1 ≠ k)
theorem but_ins {k : Int} {e : En} {s : List En} (hs : Rises s) (hk : ∀ x ∈ s, x.1 ≠ e.1) (he : e.1 ≠ k) : insE e (but k s) = but k (insE e s) := by
  refine rises_eq (insE_rises (hs.filter _) fun x hx => hk x (List.mem_filter.1 hx).1) ((insE_rises hs hk).filter _) ?_
  refine (insE_perm e _).trans ?_
  have := ((insE_perm e s).filter fun x => decide (x.1 ≠ k)).symm
  rwa [List.filter_cons_of_pos (by simpa using he)] at this
theorem but_same {k : Int} {e : En} {s : List En} (hs : Rises s) (hk : ∀ x ∈ s, x.1 ≠ e.1) (he : e.1 = k) : but k s = but k (insE e s) := by
  refine rises_eq (hs.filter _) ((insE_rises hs hk).filter _) ?_
  have := ((insE_perm e s).filter fun x => decide (x.1 ≠ k)).symm
  rwa [List.filter_cons_of_neg (by simpa using he)] at this
theorem but_none {k : Int} {s : List En} (h : ∀ x ∈ s, x.1 ≠ k) : but k s = s := List.filter_eq_self.2 fun x hx => by simpa using h x hx
theorem mem_but {k : Int} {s : List En} : ∀ x ∈ but k s, x.1 ≠ k := fun x hx => by simpa using (List.mem_filter.1 hx).2

theorem qdrop_any {w : World} {q : Nat} {F : Nat → Prop} {s : List En} (h : QH w q F s) {k : Int} {b : Bool} (hb : b = true ↔ ∃ x ∈ s, x.1 = k) :
    Calls Try.prog 11 #[.pointer (some ⟨q, 0, none⟩), .int .i64 k] w fun e w' => e = .returned (.bool b) ∧ QH w' q F (but k s) ∧ StepQ F F w w' := by
  cases b with
  | true => exact qdrop_yes h (hb.1 rfl)
  | false =>
    have hno : ∀ x ∈ s, x.1 ≠ k := fun x hx e => by
      have := hb.2 ⟨x, hx, e⟩
      cases this
    refine (qdrop_no h hno).mono fun e w' ⟨he, hw⟩ => ⟨he, ?_, ?_⟩
    · rw [but_none hno, ← hw]; exact h
    · rw [← hw]; exact StepQ.refl _ _

/-- What the rounds of the first loop keep. -/
structure Fill (q p : Nat) (w wr : World) (k : Int) (m : Nat) (b : Bool) (s : List En) : Prop where
  both : ∃ F G, Both q p F G s (but k s) w wr
  has : b = true ↔ ∃ x ∈ s, x.1 = k
  len : s.length ≤ m

set_option maxHeartbeats 16000000 in
theorem small {w : World} {v : Value} {n : Nat} {f : Nat → Nat → Int} {k rk : Int} (h : structsAt w v n [.i8, .i8] f) (hk : -128 ≤ k ∧ k ≤ 127) (hrk : -128 ≤ rk ∧ rk ≤ 127) (hn : n ≤ 40) :
    Calls Try.prog 5 #[v, .int .i8 k, .int .i8 rk] w fun e w' => e = .returned (.bool true) ∧ Below w.heap.size w w' := by
  obtain ⟨a, c, rfl, hbd, hcl⟩ := pairs_cells h
  have HBD := Lib.hid hbd
  have HCL : Hid (∀ i w', i < n → Below w.heap.size w w' → ∃ b o, a = some ⟨b, o, none⟩ ∧ w'.cell? ⟨b, o + i * 2, none⟩ = some (.int .i8 (f i 0)) ∧ w'.cell? ⟨b, o + i * 2 + 1, none⟩ = some (.int .i8 (f i 1))) := by
    intro i w' hi hb
    obtain ⟨b, o, hab, c1, c2⟩ := hcl i hi
    have hbl := World.block_lt_of_cell? w _ c1
    exact ⟨b, o, hab, (hb.cell (p := ⟨b, o + i * 2, none⟩) hbl).trans c1, (hb.cell (p := ⟨b, o + i * 2 + 1, none⟩) hbl).trans c2⟩
  clear h hbd hcl
  have hn' : (n : Int) ≤ 40 := by omega
  obtain ⟨hk1, hk2⟩ := hk
  obtain ⟨hr1, hr2⟩ := hrk
  go_enter Try.func5, Try.ntmps5
  go_wp2_with fail
  refine (qnew_any w).mono ?_
  rintro x w1 ⟨q, F1, rfl, hq, s1⟩
  have S1 := Lib.hid s1
  have Q1 := Lib.hid hq
  clear hq s1
  go_wp2_with fail
  refine (qnew_any w1).mono ?_
  rintro x w2 ⟨p, F2, rfl, hp, s2⟩
  have HB2 : Hid (Both q p F1 F2 [] [] w w2) := by
    have b2 := s2.below
    refine ⟨Q1.out.below b2, hp, fun x h1 h2 => ?_, below_chain S1.out.below b2, fun x hx => (S1.out.foot x hx).resolve_left id, fun x hx => Nat.le_trans S1.out.upon.size ((s2.foot x hx).resolve_left id)⟩
    have := Q1.out.lt x h1
    have := (s2.foot x h2).resolve_left id
    omega
  clear hp s2
  go_wp2_with fail
  go_loopw [10, 9] (fun iv bv wr => ∃ (m : Nat) (b : Bool), m ≤ n ∧ iv = .int .i64 m ∧ bv = .bool b ∧ Hid (∃ s, Fill q p w wr k m b s)) (fun iv _ _ => n - (intOf iv).toNat)
  case atStart => exact ⟨0, false, Nat.zero_le _, rfl, rfl, [], ⟨F1, F2, HB2.out⟩, by simp, Nat.le_refl _⟩
  case round =>
    obtain ⟨m, b, hm, rfl, rfl, HR⟩ := hrel
    obtain ⟨s, hfill⟩ := HR.out
    obtain ⟨⟨F, G, hbo⟩, hhas, hlen⟩ := hfill
    have HBO := Lib.hid hbo
    have HH := Lib.hid hhas
    have HL := Lib.hid hlen
    clear hbo hhas hlen
    by_cases hlt : m < n
    · obtain ⟨bb, o, hab, e1, e2⟩ := HCL.out m wr hlt HBO.out.below
      obtain ⟨d1, d2, d3, d4⟩ := HBD.out m hlt
      cases hab
      have hmi : (m : Int) < (n : Int) := by omega
      go_wp2_with fail
      refine wp_region_still_tail 13 (by kernel_rfl) (by kernel_rfl) ?_
      simp only [List.take_succ_cons, List.take_zero, List.drop_succ_cons, List.drop_zero]
      iterate 13 still_step
      refine wpStill_nil ?_
      change wpList _ _ _ _ _ wr.drew
      clear e1 e2
      have HB1 : Hid (Both q p F G s (but k s) w wr.drew) := HBO.out.drew 1
      have hrise := HBO.out.l.rises
      by_cases hth : ∃ x ∈ s, x.1 = f m 0
      · have HT := Lib.hid hth
        have HRI := Lib.hid hrise
        clear hth hrise
        go_wp2_with fail
        refine (qpush_there HB1.out.l HT.out (f m 1)).mono ?_
        rintro x w2' ⟨rfl, rfl⟩
        obtain ⟨W2, hW2⟩ : ∃ W2, wr.drew = W2 := ⟨_, rfl⟩
        have HBQ : Hid (Both q p F G s (but k s) w W2) := by rw [← hW2]; exact HB1.out
        rw [hW2]
        clear hW2
        obtain ⟨b3, o3, hab3, e3, e4⟩ := HCL.out m W2 hlt HBQ.out.below
        cases hab3
        by_cases hck : f m 0 = k
        · have y0 : (f m 0 == k) = true := by simpa using hck
          have y1 : (f m 0 != k) = false := by simpa using hck
          have HCK := Lib.hid hck
          have hex : ∃ x ∈ s, x.1 = k := by have := HT.out; rw [HCK.out] at this; exact this
          have HEX := Lib.hid hex
          clear hex
          clear hck
          cases b with
          | true =>
            go_wp2_with fail
            go_roundw
            case rel => exact ⟨m + 1, true, by omega, by go_num, rfl, s, ⟨F, G, HBQ.out⟩, ⟨fun _ => HEX.out, fun _ => rfl⟩, by have := HL.out; omega⟩
            case measure => simp [intOf]; omega
          | false =>
            exact absurd (HH.out.2 (by have := HT.out; rw [HCK.out] at this; exact this)) (by simp)
        · have y0 : (f m 0 == k) = false := by simpa using hck
          have y1 : (f m 0 != k) = true := by simpa using hck
          have HCK := Lib.hid hck
          clear hck
          cases b with
          | true =>
            go_wp2_with fail
            refine wp_region_still_tail 13 (by kernel_rfl) (by kernel_rfl) ?_
            simp only [List.take_succ_cons, List.take_zero, List.drop_succ_cons, List.drop_zero]
            iterate 13 still_step
            refine wpStill_nil ?_
            change wpList _ _ _ _ _ (World.drew _)
            go_wp2_with fail
            refine (qpush_there (HBQ.out.drew 1).r (by obtain ⟨x, hx, hxe⟩ := HT.out; exact ⟨x, List.mem_filter.2 ⟨hx, by rw [hxe]; simpa using HCK.out⟩, hxe⟩) (f m 1)).mono ?_
            rintro x w4 ⟨rfl, rfl⟩
            have HBP := Lib.hid (HBQ.out.drew 1)
            go_wp2_with fail
            go_roundw
            case rel => exact ⟨m + 1, true, by omega, by go_num, rfl, s, ⟨F, _, HBP.out⟩, (by simpa using HH.out), by have := HL.out; omega⟩
            case measure => simp [intOf]; omega
          | false =>
            go_wp2_with fail
            refine wp_region_still_tail 13 (by kernel_rfl) (by kernel_rfl) ?_
            simp only [List.take_succ_cons, List.take_zero, List.drop_succ_cons, List.drop_zero]
            iterate 13 still_step
            refine wpStill_nil ?_
            change wpList _ _ _ _ _ (World.drew _)
            go_wp2_with fail
            refine (qpush_there (HBQ.out.drew 1).r (by obtain ⟨x, hx, hxe⟩ := HT.out; exact ⟨x, List.mem_filter.2 ⟨hx, by rw [hxe]; simpa using HCK.out⟩, hxe⟩) (f m 1)).mono ?_
            rintro x w4 ⟨rfl, rfl⟩
            have HBP := Lib.hid (HBQ.out.drew 1)
            go_wp2_with fail
            go_roundw
            case rel => exact ⟨m + 1, false, by omega, by go_num, rfl, s, ⟨F, _, HBP.out⟩, (by simpa using HH.out), by have := HL.out; omega⟩
            case measure => simp [intOf]; omega
      · have HT : Hid (∀ x ∈ s, x.1 ≠ f m 0) := fun x hx e => hth ⟨x, hx, e⟩
        have HRI := Lib.hid hrise
        clear hth hrise
        go_wp2_with fail
        refine (qpush_to HB1.out.l (f m 0) (f m 1) HT.out (by have := HL.out; omega) rfl).mono ?_
        rintro x W2 ⟨rfl, F2', hq2, hs2⟩
        have HBQ := Lib.hid (HB1.out.left hq2 hs2)
        clear hq2 hs2
        obtain ⟨b3, o3, hab3, e3, e4⟩ := HCL.out m W2 hlt HBQ.out.below
        cases hab3
        by_cases hck : f m 0 = k
        · have y0 : (f m 0 == k) = true := by simpa using hck
          have y1 : (f m 0 != k) = false := by simpa using hck
          have HCK := Lib.hid hck
          have hex : ∃ x ∈ (insE (f m 0, f m 1) s), x.1 = k := ⟨(f m 0, f m 1), (insE_perm _ _).mem_iff.2 (by simp), HCK.out⟩
          have HEX := Lib.hid hex
          clear hex
          clear hck
          cases b with
          | true =>
            go_wp2_with fail
            go_roundw
            case rel => exact ⟨m + 1, true, by omega, by go_num, rfl, (insE (f m 0, f m 1) s), ⟨F2', G, by have := HBQ.out; rwa [but_same (e := (f m 0, f m 1)) HRI.out HT.out HCK.out] at this⟩, ⟨fun _ => HEX.out, fun _ => rfl⟩, by rw [length_insE]; have := HL.out; omega⟩
            case measure => simp [intOf]; omega
          | false =>
            go_wp2_with fail
            go_roundw
            case rel => exact ⟨m + 1, true, by omega, by go_num, rfl, (insE (f m 0, f m 1) s), ⟨F2', G, by have := HBQ.out; rwa [but_same (e := (f m 0, f m 1)) HRI.out HT.out HCK.out] at this⟩, ⟨fun _ => HEX.out, fun _ => rfl⟩, by rw [length_insE]; have := HL.out; omega⟩
            case measure => simp [intOf]; omega
        · have y0 : (f m 0 == k) = false := by simpa using hck
          have y1 : (f m 0 != k) = true := by simpa using hck
          have HCK := Lib.hid hck
          clear hck
          cases b with
          | true =>
            go_wp2_with fail
            refine wp_region_still_tail 13 (by kernel_rfl) (by kernel_rfl) ?_
            simp only [List.take_succ_cons, List.take_zero, List.drop_succ_cons, List.drop_zero]
            iterate 13 still_step
            refine wpStill_nil ?_
            change wpList _ _ _ _ _ (World.drew _)
            go_wp2_with fail
            refine (qpush_to (HBQ.out.drew 1).r (f m 0) (f m 1) (fun x hx => HT.out x (List.mem_filter.1 hx).1) (by have := HL.out; have := List.length_filter_le (fun x : En => decide (x.1 ≠ k)) s; show (s.filter _).length < _; omega) (but_ins HRI.out HT.out HCK.out)).mono ?_
            rintro x w4 ⟨rfl, G2, hq4, hs4⟩
            have HBP := Lib.hid ((HBQ.out.drew 1).right hq4 hs4)
            clear hq4 hs4
            go_wp2_with fail
            go_roundw
            case rel => exact ⟨m + 1, true, by omega, by go_num, rfl, (insE (f m 0, f m 1) s), ⟨F2', _, HBP.out⟩, ⟨fun _ => (show ∃ x ∈ s, x.1 = k by simpa using HH.out).elim fun x hx => ⟨x, (insE_perm _ _).mem_iff.2 (by simp [hx.1]), hx.2⟩, fun _ => rfl⟩, by rw [length_insE]; have := HL.out; omega⟩
            case measure => simp [intOf]; omega
          | false =>
            go_wp2_with fail
            refine wp_region_still_tail 13 (by kernel_rfl) (by kernel_rfl) ?_
            simp only [List.take_succ_cons, List.take_zero, List.drop_succ_cons, List.drop_zero]
            iterate 13 still_step
            refine wpStill_nil ?_
            change wpList _ _ _ _ _ (World.drew _)
            go_wp2_with fail
            refine (qpush_to (HBQ.out.drew 1).r (f m 0) (f m 1) (fun x hx => HT.out x (List.mem_filter.1 hx).1) (by have := HL.out; have := List.length_filter_le (fun x : En => decide (x.1 ≠ k)) s; show (s.filter _).length < _; omega) (but_ins HRI.out HT.out HCK.out)).mono ?_
            rintro x w4 ⟨rfl, G2, hq4, hs4⟩
            have HBP := Lib.hid ((HBQ.out.drew 1).right hq4 hs4)
            clear hq4 hs4
            go_wp2_with fail
            go_roundw
            case rel => exact ⟨m + 1, false, by omega, by go_num, rfl, (insE (f m 0, f m 1) s), ⟨F2', _, HBP.out⟩, ⟨(fun h => by cases h), fun ⟨x, hx, hxe⟩ => by
              rcases List.mem_cons.1 ((insE_perm _ _).mem_iff.1 hx) with rfl | hx
              · exact absurd hxe HCK.out
              · have := HH.out
                simp only [Bool.false_eq_true, false_iff] at this
                exact absurd ⟨x, hx, hxe⟩ this⟩, by rw [length_insE]; have := HL.out; omega⟩
            case measure => simp [intOf]; omega
    · have hkd : decide (m < n) = false := decide_eq_false (by omega)
      clear hlt
      go_wp2_with fail
      refine (qdrop_any HBO.out.l HH.out).mono ?_
      rintro x w3 ⟨rfl, hq3, hs3⟩
      have HB3 : Hid (Both q p F G (but k s) (but k s) w w3) := HBO.out.left hq3 hs3
      clear hq3 hs3
      have hT : ∀ x ∈ but k s, x.1 ≠ k := mem_but
      have hTl : (but k s).length ≤ 40 := by have := List.length_filter_le (fun x : En => decide (x.1 ≠ k)) s; have := HL.out; show (s.filter _).length ≤ _; omega
      have HT := Lib.hid hT
      clear hT
      generalize but k s = T at *
      go_wp2_with fail
      refine (qlist_any HB3.out.l).mono ?_
      rintro x w4 ⟨v4, rfl, ho4, hb4⟩
      have HB4 := Lib.hid (HB3.out.more hb4)
      have HO4 := Lib.hid ho4
      clear ho4 hb4
      go_wp2_with fail
      refine (qlist_any HB4.out.r).mono ?_
      rintro x w5 ⟨v5, rfl, ho5, hb5⟩
      have HB5 := Lib.hid (HB4.out.more hb5)
      have HO5 := Lib.hid ho5
      have HO45 := Lib.hid (owns_below HO4.out hb5 (fun g hg => (HO4.out.lt g hg).2))
      clear ho5 hb5
      go_wp2_with fail
      refine (qpairs_to (xs := T) (ys := T) (b := true) (readsAt.of_owns HO45.out) (readsAt.of_owns HO5.out) (by omega) (by simp)).mono ?_
      rintro x w6 ⟨rfl, hb6⟩
      have HB6 := Lib.hid (HB5.out.more hb6)
      clear hb6
      go_wp2_with fail
      refine (qpush_to HB6.out.l k rk HT.out (by omega) rfl).mono ?_
      rintro x w7 ⟨rfl, F7, hq7, hs7⟩
      have HB7 := Lib.hid (HB6.out.left hq7 hs7)
      clear hq7 hs7
      go_wp2_with fail
      refine (qlist_any HB7.out.l).mono ?_
      rintro x w8 ⟨v8, rfl, ho8, hb8⟩
      have HB8 := Lib.hid (HB7.out.more hb8)
      have hUl : (insE (k, rk) T).length = T.length + 1 := length_insE _ _
      have hmem : (k, rk) ∈ insE (k, rk) T := (insE_perm _ _).mem_iff.2 (by simp)
      obtain ⟨j0, hj0, hj0e⟩ := List.getElem_of_mem hmem
      have hris := HB8.out.l.rises
      have hsort : ∀ i j (hi : i < (insE (k, rk) T).length) (hj : j < (insE (k, rk) T).length), i < j → ltE (insE (k, rk) T)[i] (insE (k, rk) T)[j] := fun i j hi hj hij => (List.pairwise_iff_getElem.1 hris) i j hi hj hij
      have hcell : ∃ g c, v8 = .slice (some ⟨g, 0, none⟩) (insE (k, rk) T).length c ∧ ∀ i (hi : i < (insE (k, rk) T).length), w8.cell? ⟨g, i * 2, none⟩ = some (.int .i64 (insE (k, rk) T)[i].1) ∧ w8.cell? ⟨g, i * 2 + 1, none⟩ = some (.int .i64 (insE (k, rk) T)[i].2) := by
        rcases owns_parts ho8 with ⟨_, h0, _⟩ | ⟨g, cp, rest, h1, _, h2, _⟩
        · omega
        · refine ⟨g, cp, h1, fun i hi => ?_⟩
          have hl2 := length_pairsL (insE (k, rk) T)
          obtain ⟨x1, x2⟩ := pairsL_get (insE (k, rk) T) i hi
          rw [h2.cell, h2.cell, List.getElem?_append_left (by omega), List.getElem?_append_left (by omega), x1, x2]
          exact ⟨rfl, rfl⟩
      obtain ⟨g, c8, rfl, hcell⟩ := hcell
      have HSO := Lib.hid hsort
      have HCE := Lib.hid hcell
      have HJE := Lib.hid hj0e
      have HUL := Lib.hid hUl
      have hU41 : (insE (k, rk) T).length ≤ 41 := by omega
      clear ho8 hb8 hmem hris hsort hcell hj0e hUl
      generalize insE (k, rk) T = U at *
      have hU41' : (U.length : Int) ≤ 41 := by omega
      go_wp2_with fail
      go_loopw [13, 12] (fun iv bv wq => ∃ (j nq : Nat) (b : Bool), j ≤ U.length ∧ iv = .int .i64 j ∧ bv = .bool b ∧ wq = w8.drewN nq ∧ Hid (b = true ∨ j ≤ j0)) (fun iv _ _ => U.length - (intOf iv).toNat)
      case atStart => exact ⟨0, 0, false, Nat.zero_le _, rfl, rfl, rfl, .inr (Nat.zero_le _)⟩
      case round =>
        obtain ⟨j, nq, b, hj, rfl, rfl, rfl, HJ⟩ := hrel
        by_cases hjl : j < U.length
        · have hji : (j : Int) < (U.length : Int) := by omega
          obtain ⟨e1, e2⟩ := HCE.out j hjl
          obtain ⟨x, hx⟩ : ∃ x, U[j].1 = x := ⟨_, rfl⟩
          obtain ⟨y, hy⟩ : ∃ y, U[j].2 = y := ⟨_, rfl⟩
          rw [hx] at e1
          rw [hy] at e2
          have HX := Lib.hid hx
          have HY := Lib.hid hy
          clear hx hy
          by_cases hz : j = 0
          · have z0 : decide (0 < j) = false := decide_eq_false (by omega)
            have z1 : decide ((0 : Int) < (j : Int)) = false := decide_eq_false (by omega)
            clear hz
            cases b with
            | true =>
              go_wp2_with fail
              go_quiet (fail)
              go_wp2_with fail
              go_roundw
              case rel => exact ⟨j + 1, _, true, by omega, by go_num, rfl, rfl, .inl rfl⟩
              case measure => simp [intOf]; omega
            | false =>
              by_cases he : x = k ∧ y = rk
              · have f1 : ∀ w, (Op.equalIn 10000 35 (.agg #[.int .i64 x, .int .i64 y]) (.agg #[.int .i64 k, .int .i64 rk])).run Try.prog w = .ok true w := fun w => by rw [run_pair_eq, he.1, he.2]; simp
                clear he
                go_wp2_with fail
                go_quiet (fail)
                go_wp2_with fail
                go_roundw
                case rel => exact ⟨j + 1, _, true, by omega, by go_num, rfl, rfl, .inl rfl⟩
                case measure => simp [intOf]; omega
              · have f1 : ∀ w, (Op.equalIn 10000 35 (.agg #[.int .i64 x, .int .i64 y]) (.agg #[.int .i64 k, .int .i64 rk])).run Try.prog w = .ok false w := fun w => by
                  rw [run_pair_eq]
                  have : ((x == k) && (y == rk)) = false := by
                    rw [Bool.eq_false_iff]
                    intro e
                    simp only [Bool.and_eq_true, beq_iff_eq] at e
                    exact he e
                  rw [this]
                have hne : j ≠ j0 := by
                  rintro rfl
                  exact he ⟨by rw [← HX.out, HJE.out], by rw [← HY.out, HJE.out]⟩
                have hjle : j ≤ j0 := by
                  rcases HJ.out with h | h
                  · cases h
                  · exact h
                clear he
                go_wp2_with fail
                go_quiet (fail)
                go_wp2_with fail
                go_roundw
                case rel => exact ⟨j + 1, _, false, by omega, by go_num, rfl, rfl, .inr (by omega)⟩
                case measure => simp [intOf]; omega
          · obtain ⟨i', hi'⟩ : ∃ i', j = i' + 1 := ⟨j - 1, by omega⟩
            have hil : i' < U.length := by omega
            have hii : (i' : Int) < (U.length : Int) := by omega
            obtain ⟨e3, e4⟩ := HCE.out i' hil
            have hlt2 := HSO.out i' j hil hjl (by omega)
            obtain ⟨x', hx'⟩ : ∃ x, U[i'].1 = x := ⟨_, rfl⟩
            obtain ⟨y', hy'⟩ : ∃ y, U[i'].2 = y := ⟨_, rfl⟩
            have hlt3 : y' < y ∨ (y' = y ∧ x' < x) := by rw [← hx', ← hy', ← HX.out, ← HY.out]; exact hlt2
            rw [hx'] at e3
            rw [hy'] at e4
            have z0 : decide (0 < j) = true := decide_eq_true (by omega)
            have z1 : (0 : Int) < (j : Int) := by omega
            have w1 : IntKind.i64.wrap ((j : Int) - 1) = (i' : Int) := by rw [IntKind.wrap_i64]; omega
            have w2 : (j : Int) - 1 = (i' : Int) := by omega
            clear hi' hx' hy' hlt2 hz
            rcases hlt3 with hlt3 | ⟨rfl, hlt3⟩
            · have t1 : decide (y < y') = false := decide_eq_false (by omega)
              have t2 : (y == y') = false := by simp; omega
              clear hlt3
              cases b with
              | true =>
                go_wp2_with fail
                go_quiet (fail)
                go_wp2_with fail
                go_roundw
                case rel => exact ⟨j + 1, _, true, by omega, by go_num, rfl, rfl, .inl rfl⟩
                case measure => simp [intOf]; omega
              | false =>
                by_cases he : x = k ∧ y = rk
                · have f1 : ∀ w, (Op.equalIn 10000 35 (.agg #[.int .i64 x, .int .i64 y]) (.agg #[.int .i64 k, .int .i64 rk])).run Try.prog w = .ok true w := fun w => by rw [run_pair_eq, he.1, he.2]; simp
                  clear he
                  go_wp2_with fail
                  go_quiet (fail)
                  go_wp2_with fail
                  go_roundw
                  case rel => exact ⟨j + 1, _, true, by omega, by go_num, rfl, rfl, .inl rfl⟩
                  case measure => simp [intOf]; omega
                · have f1 : ∀ w, (Op.equalIn 10000 35 (.agg #[.int .i64 x, .int .i64 y]) (.agg #[.int .i64 k, .int .i64 rk])).run Try.prog w = .ok false w := fun w => by
                    rw [run_pair_eq]
                    have : ((x == k) && (y == rk)) = false := by
                      rw [Bool.eq_false_iff]
                      intro e
                      simp only [Bool.and_eq_true, beq_iff_eq] at e
                      exact he e
                    rw [this]
                  have hne : j ≠ j0 := by
                    rintro rfl
                    exact he ⟨by rw [← HX.out, HJE.out], by rw [← HY.out, HJE.out]⟩
                  have hjle : j ≤ j0 := by
                    rcases HJ.out with h | h
                    · cases h
                    · exact h
                  clear he
                  go_wp2_with fail
                  go_quiet (fail)
                  go_wp2_with fail
                  go_roundw
                  case rel => exact ⟨j + 1, _, false, by omega, by go_num, rfl, rfl, .inr (by omega)⟩
                  case measure => simp [intOf]; omega
            · have t1 : decide (y' < y') = false := decide_eq_false (by omega)
              have t2 : (y' == y') = true := by simp
              have t3 : decide (x ≤ x') = false := decide_eq_false (by omega)
              clear hlt3
              cases b with
              | true =>
                go_wp2_with fail
                go_quiet (fail)
                go_wp2_with fail
                go_roundw
                case rel => exact ⟨j + 1, _, true, by omega, by go_num, rfl, rfl, .inl rfl⟩
                case measure => simp [intOf]; omega
              | false =>
                by_cases he : x = k ∧ y' = rk
                · have f1 : ∀ w, (Op.equalIn 10000 35 (.agg #[.int .i64 x, .int .i64 y']) (.agg #[.int .i64 k, .int .i64 rk])).run Try.prog w = .ok true w := fun w => by rw [run_pair_eq, he.1, he.2]; simp
                  clear he
                  go_wp2_with fail
                  go_quiet (fail)
                  go_wp2_with fail
                  go_roundw
                  case rel => exact ⟨j + 1, _, true, by omega, by go_num, rfl, rfl, .inl rfl⟩
                  case measure => simp [intOf]; omega
                · have f1 : ∀ w, (Op.equalIn 10000 35 (.agg #[.int .i64 x, .int .i64 y']) (.agg #[.int .i64 k, .int .i64 rk])).run Try.prog w = .ok false w := fun w => by
                    rw [run_pair_eq]
                    have : ((x == k) && (y' == rk)) = false := by
                      rw [Bool.eq_false_iff]
                      intro e
                      simp only [Bool.and_eq_true, beq_iff_eq] at e
                      exact he e
                    rw [this]
                  have hne : j ≠ j0 := by
                    rintro rfl
                    exact he ⟨by rw [← HX.out, HJE.out], by rw [← HY.out, HJE.out]⟩
                  have hjle : j ≤ j0 := by
                    rcases HJ.out with h | h
                    · cases h
                    · exact h
                  clear he
                  go_wp2_with fail
                  go_quiet (fail)
                  go_wp2_with fail
                  go_roundw
                  case rel => exact ⟨j + 1, _, false, by omega, by go_num, rfl, rfl, .inr (by omega)⟩
                  case measure => simp [intOf]; omega
        · have hbt : b = true := by
            rcases HJ.out with h | h
            · exact h
            · omega
          subst hbt
          have hjd : U.length ≤ j := by omega
          clear hjl
          go_wp2_with fail
          refine (qlen_to (HB8.out.drew nq).l (n := (T.length : Int) + 1) (by have := HUL.out; omega)).mono ?_
          rintro x w9 ⟨rfl, rfl⟩
          go_wp2_with fail
          refine (qlen_any (HB8.out.drew nq).r).mono ?_
          rintro x w9 ⟨rfl, rfl⟩
          go_wp2_with fail
          refine (wakes_any _).mono ?_
          rintro x w9 ⟨rfl, hb9⟩
          have HB9 := Lib.hid hb9
          clear hb9
          go_wp2_with fail
          go_ret
          exact ⟨rfl, (HB8.out.drew nq).below.trans (HB9.out.mono (HB8.out.drew nq).below.size)⟩

theorem walk (v : Value) (n : Nat) (f : Nat → Nat → Int) (a1 a2 : Int) (W : World) (h : structsAt W v n (List.replicate 2 .i8) f) (_ : n ≤ maxLen) (w1 : (Lit.int .i8 a1).wf = true) (w2 : (Lit.int .i8 a2).wf = true) :
    Calls Try.prog 5 #[v, .int .i8 a1, .int .i8 a2] W fun e w' => e = .returned (.bool true) ∧ Below W.heap.size W w' := by
  have h : structsAt W v n [.i8, .i8] f := h
  by_cases hn : n ≤ 40
  · exact small h (wf8 w1) (wf8 w2) hn
  · exact big h (by omega)

theorem contract (H : Type) (enc : TypeId × Value → H) (W : World) (base : Nat) (args : Array Value) (ds gs : List (DataW H)) (before : List MemPlace)
    (hval0 : ∀ (j : Nat) t v, Try.f5.params[j]? = some t → args[j]? = some v → Value.okWide Try.prog W .any base t v)
    (hW : DataW.Whole enc Try.prog Try.f5.params.toList Rows.orderDropsSpec.vars false W args.toList ds gs before) :
    Calls Try.prog 5 args W fun e W' => ∃ v, e = .returned v ∧ Rows.orderDropsSpec.post enc Try.prog Try.f5 false true false false W args v W' := by
  have hW' := hW
  have hval := hval0
  obtain ⟨p, q, hA0, hV, rfl, hfz, hnd⟩ := hW
  have hA : DataW.TrodAll enc Try.prog W 0 (fun _ => true) true Try.f5.params.toList args.toList ds p := hA0
  rw [Try.params5] at hA hval
  obtain ⟨rfl, rfl⟩ := trodVars_none hV
  obtain ⟨v0, vs0, d0, ds0, p0, q0, hargs, rfl, rfl, h0, r0⟩ := trodAll_cons hA
  obtain ⟨v1, vs1, d1, ds1, p1, q1, rfl, rfl, rfl, h1, r1⟩ := trodAll_cons r0
  obtain ⟨v2, vs2, d2, ds2, p2, q2, rfl, rfl, rfl, h2, r2⟩ := trodAll_cons r1
  obtain ⟨rfl, rfl, rfl⟩ := trodAll_nil r2
  obtain rfl : args = #[v0, v1, v2] := by cases args; simp_all
  obtain ⟨n0, f0, hr0, hm0⟩ := open_slice_array 2 .i8 Try.underlying41 Try.underlying43 Try.underlying42 (by kernel_rfl) (by kernel_rfl) (by decide) (hval 0 41 v0 rfl rfl) h0
  obtain ⟨a1, rfl, rfl, rfl, w1⟩ := open_int Try.underlying42 (hval 1 42 v1 rfl rfl) h1
  obtain ⟨a2, rfl, rfl, rfl, w2⟩ := open_int Try.underlying42 (hval 2 42 v2 rfl rfl) h2
  refine (walk v0 n0 f0 a1 a2 W hr0 hm0 w1 w2).mono fun e W' ⟨he, hb⟩ => ?_
  subst he
  exact ⟨_, rfl, law_post laidOut (by kernel_rfl) rfl (by kernel_rfl) Try.underlying4 hW' rfl rfl rfl hb⟩

set_option maxRecDepth 100000 in
theorem lifted (os : Os) (started : os.Started) (H : Type) (enc : TypeId × Value → H) :
    ReturnsInHanded {} Try.checked os 5 .any (Rows.orderDropsSpec.pre6 enc Try.prog Try.f5 Rows.orderDropsRow.domain false) (Rows.orderDropsSpec.post enc Try.prog Try.f5 false true false false) := by
  refine returnsInHanded_of_change (C := Try.checked) own started (by kernel_rfl) Try.func5
    (ChangeSpec.witness6 (enc := enc) (C := Try.checked) false ⟨#[], #[.slice none 0 0, .int .i8 0, .int .i8 0], []⟩ 8 (by kernel_rfl) (by kernel_rfl) (by kernel_rfl) (by kernel_rfl)) ?_
  intro W base args ds gs before hval hW _ _
  exact contract H enc W base args ds gs before hval hW

theorem over : Rows.orderDropsRow.holds Try.pinned (OpenSpec.ofChange Rows.orderDropsSpec) :=
  OpenClaim.holds_of_wide 5 Try.f5 rfl rfl rfl rfl rfl rfl rfl ⟨rfl, rfl, rfl, rfl, rfl⟩ rfl rfl rfl rfl rfl (by kernel_rfl) Try.func5 (by kernel_rfl)
    (of_decide_eq_true (by kernel_rfl)) (by unfold Func.isWrapper; first | (rw [if_pos (by decide +kernel)]; kernel_rfl) | (rw [if_neg (by decide +kernel)]; exact ⟨rfl, rfl⟩))
    (fun os started H enc _ => lifted os started H enc)

theorem proved : Rows.OrderDropsSaid := over
#print axioms proved
end Go.Proofs.Ytgcmkhbpkmfpkaa.orderDrops
