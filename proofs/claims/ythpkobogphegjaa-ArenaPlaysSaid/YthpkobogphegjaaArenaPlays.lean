/-
  For every size and every slice of steps the law ArenaPlays returns true: the arena answers each call as the document's arena does, and has its regions; its arguments read as they did. Conditions: none.
-/
import Derived.Test.YthpkobogphegjaaWakesB
import Derived.Test.YthpkobogphegjaaArgs
import Derived.Test.YthpkobogphegjaaTwo
namespace Go.Proofs.Ythpkobogphegjaa.arenaPlays
open Go.ChangeShapes Go.WideShapes Go.ChangeAt Go.RowKit
set_option linter.unusedVariables false

theorem own : ownKnob Try.prog.godebug = none := by kernel_rfl
theorem laidOut : laidOutB Try.prog = true := by kernel_rfl

theorem below_chain3 {B : Nat} {w W W5 W6 : World} (h : Below B w W) (h5 : Below W.heap.size W W5) (h6 : Below W5.heap.size W5 W6) (hB : B ≤ W.heap.size := by first | assumption | omega | (simp; omega)) : Below B w W6 :=
  (h.trans (h5.mono hB)).trans (h6.mono (Nat.le_trans hB h5.size))
theorem region_short {A : Ar} (h : A.Ok) (k : Int) : (A.region k).length ≤ 140737488355328 := by
  have := h.max
  unfold Ar.region
  split
  · simp; omega
  · simp

theorem cut_length (A : Ar) (k : Int) : (A.cut k).ws.length = A.ws.length := by
  unfold Ar.cut
  split
  · rename_i hh; exact Ar.length_cutted hh
  · rfl
theorem set_length (A : Ar) (k i x : Int) : (A.set k i x).ws.length = A.ws.length := by
  unfold Ar.set
  split
  · simp
  · rfl

/-- Both arenas, read alike, behind B. -/
def Alike (B p p2 : Nat) (A : Ar) (w : World) : Prop := ∃ F G, Held w p F A ∧ RHeld w p2 G A ∧ (∀ k, F k → ¬ G k) ∧ (∀ k, F k → B ≤ k) ∧ ∀ k, G k → B ≤ k
theorem Alike.box {B p p2 : Nat} {A : Ar} {w : World} (h : Alike B p p2 A w) (T : TypeId) (cs : List Value) : Two B p p2 w.heap.size T cs A A (w.alloc (.cells ⟨cs⟩ T)) := by
  obtain ⟨F, G, h1, h2, h3, h4, h5⟩ := h
  have hu : Upon (fun _ => False) w (w.alloc (.cells ⟨cs⟩ T)) := Upon.alloc _ _ _
  exact ⟨F, G, h1.upon hu fun _ _ h => h, h2.upon hu fun _ _ h => h, rowAt.made w T cs, h3, fun hk => by have := h1.lt _ hk; omega, fun hk => by have := h2.lt _ hk; omega, h4, h5⟩
theorem Two.alike {B p p2 bx : Nat} {T : TypeId} {cs : List Value} {A : Ar} {w : World} (h : Two B p p2 bx T cs A A w) : Alike B p p2 A w := by
  obtain ⟨F, G, h⟩ := h
  exact ⟨F, G, h.one, h.two, h.apart, h.lowF, h.lowG⟩
theorem Two.drew {B p p2 bx : Nat} {T : TypeId} {cs : List Value} {A A' : Ar} {w : World} (h : Two B p p2 bx T cs A A' w) : Two B p p2 bx T cs A A' w.drew := h.below (below_draws (Below.refl _ w) 1)
/-- The facts of a step's four numbers. -/
theorem Two.four {B p p2 bx : Nat} {T : TypeId} {x0 x1 x2 x3 : Value} {A A' : Ar} {w : World} (h : Two B p p2 bx T [x0, x1, x2, x3] A A' w) :
    w.cell? ⟨bx, 1, none⟩ = some x1 ∧ w.cell? ⟨bx, 2, none⟩ = some x2 ∧ w.cell? ⟨bx, 3, none⟩ = some x3 ∧ bx < w.heap.size :=
  ⟨(h.cell 1).trans rfl, (h.cell 2).trans rfl, (h.cell 3).trans rfl, h.lt⟩

/-- What a step leaves. -/
def Turned (B p p2 bx : Nat) (T : TypeId) (cs : List Value) (n : Nat) (w wx : World) : Prop := ∃ A1, Two B p p2 bx T cs A1 A1 wx ∧ A1.ws.length = n ∧ Below B w wx

set_option maxRecDepth 100000 in
theorem plays_no (a0 : Int) (v1 : Value) (n1 : Nat) (f1 : Nat → Nat → Int) (w : World) (hr1 : structsAt w v1 n1 [.i64, .i64, .i64, .u64] f1) (hm1 : n1 ≤ maxLen) (h : a0 < 1 ∨ 20000 < a0) :
    Calls Try.prog 3 #[.int .i64 a0, v1] w fun e w' => e = .returned (.bool true) ∧ Below w.heap.size w w' := by
  unfold maxLen at hm1
  obtain ⟨a1, c1, rfl, hwf1, ha1⟩ := hr1
  clear hwf1 ha1
  by_cases hn : 80 < n1
  all_goals
    have HN := Lib.hid h
    clear h
    go_enter Try.func3, Try.ntmps3
    go_wp2_with fail
    refine (new_no HN.out).mono ?_
    rintro e w1 ⟨rfl, rfl⟩
    go_wp2_with fail
    refine (refNew_no HN.out).mono ?_
    rintro e w1 ⟨rfl, rfl⟩
    go_wp2_with fail
    refine (wakes_any _).mono ?_
    rintro e w2 ⟨rfl, b2⟩
    go_wp2
    go_ret
    exact ⟨rfl, b2⟩

/-- The two arenas at the start. -/
theorem alike_start {w w1 w2 : World} {p p2 n : Nat} {F G : Nat → Prop} (h1 : Held w1 p F (Ar.new n)) (s1 : Step (fun _ => False) F w w1) (h2 : RHeld w2 p2 G (Ar.new n)) (s2 : Step (fun _ => False) G w1 w2) :
    Alike w.heap.size p p2 (Ar.new n) w2 ∧ Below w.heap.size w w2 := by
  have hs := s1.upon.size
  refine ⟨⟨F, G, h1.upon s2.upon fun _ _ h => h, h2, fun k hf hg => ?_, fun k hk => ?_, fun k hk => ?_⟩, below_chain s1.below s2.below⟩
  · have := h1.lt k hf
    rcases s2.foot k hg with h | h
    · exact h
    · omega
  · rcases s1.foot k hk with h | h
    · exact h.elim
    · exact h
  · rcases s2.foot k hk with h | h
    · exact h.elim
    · omega

set_option maxRecDepth 100000 in
theorem plays_long (n : Nat) (v1 : Value) (n1 : Nat) (f1 : Nat → Nat → Int) (w : World) (hr1 : structsAt w v1 n1 [.i64, .i64, .i64, .u64] f1) (hm1 : n1 ≤ maxLen) (h1 : 1 ≤ n) (h2 : n ≤ 20000) (hn : 80 < n1) :
    Calls Try.prog 3 #[.int .i64 n, v1] w fun e w' => e = .returned (.bool true) ∧ Below w.heap.size w w' := by
  unfold maxLen at hm1
  obtain ⟨a1, c1, rfl, hwf1, ha1⟩ := hr1
  clear hwf1 ha1
  go_enter Try.func3, Try.ntmps3
  go_wp2_with fail
  refine (new_h h1 h2).mono ?_
  rintro e w1 ⟨p, F, rfl, H1, s1⟩
  go_wp2_with fail
  refine (rnew_h h1 h2).mono ?_
  rintro e w2 ⟨p2, G, rfl, H2, s2⟩
  go_wp2_with fail
  refine (wakes_any _).mono ?_
  rintro e w3 ⟨rfl, b3⟩
  go_wp2
  go_ret
  exact ⟨rfl, below_chain (alike_start H1 s1 H2 s2).2 b3⟩

set_option maxRecDepth 100000 in
set_option maxHeartbeats 8000000 in
theorem plays_yes (n : Nat) (v1 : Value) (n1 : Nat) (f1 : Nat → Nat → Int) (w : World) (hr1 : structsAt w v1 n1 [.i64, .i64, .i64, .u64] f1) (h1 : 1 ≤ n) (h2 : n ≤ 20000) (hn : n1 ≤ 80) :
    Calls Try.prog 3 #[.int .i64 n, v1] w fun e w' => e = .returned (.bool true) ∧ Below w.heap.size w w' := by
  obtain ⟨a1, c1, rfl, hwf1, ha1⟩ := hr1
  have HA1 := Lib.hid ha1
  have HW1 := Lib.hid hwf1
  clear hwf1 ha1
  go_enter Try.func3, Try.ntmps3
  go_wp2_with fail
  refine (new_h h1 h2).mono ?_
  rintro e w1 ⟨p, F, rfl, H1, s1⟩
  go_wp2_with fail
  refine (rnew_h h1 h2).mono ?_
  rintro e w2 ⟨p2, G, rfl, H2, s2⟩
  have HS := Lib.hid (alike_start H1 s1 H2 s2)
  clear H1 s1 H2 s2
  go_wp2
  go_loopw [8] (fun i wr => ∃ (k : Nat) (A : Ar), k ≤ n1 ∧ i = .int .i64 k ∧ Hid (Alike w.heap.size p p2 A wr ∧ A.ws.length = n) ∧ Below w.heap.size w wr) (fun i _ => n1 - (intOf i).toNat)
  case atStart => exact ⟨0, Ar.new n, Nat.zero_le _, rfl, ⟨HS.out.1, by simp [Ar.new]⟩, HS.out.2⟩
  case round =>
    obtain ⟨k, A, hk, rfl, HL, hb⟩ := hrel
    by_cases hlt : k < n1
    · rcases HA1.out with h0 | ⟨b3, o3, rfl, hc3⟩
      · omega
      have q0 := hc3 k 0 .i64 hlt rfl
      have q1 := hc3 k 1 .i64 hlt rfl
      have q2 := hc3 k 2 .i64 hlt rfl
      have q3 := hc3 k 3 .u64 hlt rfl
      have hb3 : b3 < w.heap.size := World.block_lt_of_cell? w _ q0
      simp only [List.length_cons, List.length_nil, Nat.zero_add, Nat.add_zero, ← Nat.add_assoc] at q0 q1 q2 q3
      have p0 : wr.cell? ⟨b3, o3 + k * 4, none⟩ = some (.int .i64 (f1 k 0)) := (hb.cell (p := ⟨b3, o3 + k * 4, none⟩) hb3).trans q0
      have p1 : wr.cell? ⟨b3, o3 + k * 4 + 1, none⟩ = some (.int .i64 (f1 k 1)) := (hb.cell (p := ⟨b3, o3 + k * 4 + 1, none⟩) hb3).trans q1
      have p2' : wr.cell? ⟨b3, o3 + k * 4 + 2, none⟩ = some (.int .i64 (f1 k 2)) := (hb.cell (p := ⟨b3, o3 + k * 4 + 2, none⟩) hb3).trans q2
      have p3 : wr.cell? ⟨b3, o3 + k * 4 + 3, none⟩ = some (.int .u64 (f1 k 3)) := (hb.cell (p := ⟨b3, o3 + k * 4 + 3, none⟩) hb3).trans q3
      have HWX := Lib.hid (HW1.out k 3 .u64 hlt rfl)
      have HN := Lib.hid (bounds_i64 (HW1.out k 1 .i64 hlt rfl)).2
      generalize f1 k 0 = K at *
      generalize f1 k 1 = N at *
      generalize f1 k 2 = At at *
      generalize f1 k 3 = X at *
      clear q0 q1 q2 q3 hc3
      have HT0 := Lib.hid (HL.out.1.box 31 [.int .i64 K, .int .i64 N, .int .i64 At, .int .u64 X])
      have HBX : Hid (Below w.heap.size w (wr.alloc (.cells #[.int .i64 K, .int .i64 N, .int .i64 At, .int .u64 X] 31)) ∧ w.heap.size ≤ wr.heap.size) := ⟨hb.alloc hb.size _, hb.size⟩
      have hsz := hb.size
      go_upto_block 2 with fail
      go_cut [] (fun wx => Turned w.heap.size p p2 wr.heap.size 31 [.int .i64 K, .int .i64 N, .int .i64 At, .int .u64 X] n w wx)
      case first =>
        by_cases hK0 : K = 0
        · subst hK0
          have hhas : ∃ b, A.has N = b := ⟨_, rfl⟩
          obtain ⟨b, hh⟩ := hhas
          have h00 : 0 ≤ A.cutAt N ∧ A.refAt N = (if b then A.cutAt N else -1) ∧ (b = false → A.cutAt N = 0) := by
            unfold Ar.cutAt Ar.refAt
            rw [hh]
            cases b <;> simp
          obtain ⟨hc0, hra, hcz⟩ := h00
          generalize hca : A.cutAt N = C at *
          cases b
          · simp only [if_false, Bool.false_eq_true] at hra
            obtain rfl : C = 0 := hcz rfl
            clear hcz
            go_wp2_with fail
            refine (two_cut HT0.out (by simp; omega) N HN.out).mono ?_
            rintro e w3 ⟨he, hT, hb⟩
            rw [hh, hca] at he
            subst he
            have HT3 := Lib.hid hT
            have HB3 := Lib.hid hb
            obtain ⟨y1, y2, y3, y4⟩ := Two.four hT
            have hs3 := hb.size
            clear hT hb
            go_wp2_with fail
            refine (two_rcut HT3.out (by omega) N).mono ?_
            rintro e w4 ⟨he, hT, hb⟩
            rw [hra] at he
            subst he
            have HT4 := Lib.hid hT
            have HB4 := Lib.hid hb
            obtain ⟨z1, z2, z3, z4⟩ := Two.four hT
            have hs4 := hb.size
            clear hT hb
            clear hca hra hh
            go_wp2_with fail
            go_meet
            exact ⟨A.cut N, HT4.out, (cut_length A N).trans HL.out.2, ((HBX.out.1.trans HB3.out).trans HB4.out)⟩
          · simp only [if_true] at hra
            have hmx : max (0 : Int) C = C := by omega
            clear hcz
            go_wp2_with fail
            refine (two_cut HT0.out (by simp; omega) N HN.out).mono ?_
            rintro e w3 ⟨he, hT, hb⟩
            rw [hh, hca] at he
            subst he
            have HT3 := Lib.hid hT
            have HB3 := Lib.hid hb
            obtain ⟨y1, y2, y3, y4⟩ := Two.four hT
            have hs3 := hb.size
            clear hT hb
            go_wp2_with fail
            refine (two_rcut HT3.out (by omega) N).mono ?_
            rintro e w4 ⟨he, hT, hb⟩
            rw [hra] at he
            subst he
            have HT4 := Lib.hid hT
            have HB4 := Lib.hid hb
            obtain ⟨z1, z2, z3, z4⟩ := Two.four hT
            have hs4 := hb.size
            clear hT hb
            clear hca hra hh
            go_wp2_with fail
            go_meet
            exact ⟨A.cut N, HT4.out, (cut_length A N).trans HL.out.2, ((HBX.out.1.trans HB3.out).trans HB4.out)⟩
        by_cases hK1 : K = 1
        · subst hK1
          clear hK0
          go_wp2_with fail
          have HT0d := Lib.hid (Two.drew HT0.out)
          go_region_with (first
            | (go_at_call 12; refine (two_free HT0d.out (by simp; omega) N).mono ?_; rintro e w3 ⟨rfl, hT, hb⟩; have HT3 := Lib.hid hT; have HBw3 := Lib.hid hb; obtain ⟨y1, y2, y3, y4⟩ := Two.four hT; have hsw3 := hb.size; clear hT hb)
            | (go_at_call 12; refine (two_free HT3.out (by omega) N).mono ?_; rintro e w4 ⟨rfl, hT, hb⟩; have HT4 := Lib.hid hT; have HBw4 := Lib.hid hb; obtain ⟨y1, y2, y3, y4⟩ := Two.four hT; have hsw4 := hb.size; clear hT hb)
            | (go_at_call 13; refine (two_rfree HT0d.out (by simp; omega) N).mono ?_; rintro e w3 ⟨rfl, hT, hb⟩; have HT3 := Lib.hid hT; have HBw3 := Lib.hid hb; obtain ⟨y1, y2, y3, y4⟩ := Two.four hT; have hsw3 := hb.size; clear hT hb)
            | (go_at_call 13; refine (two_rfree HT3.out (by omega) N).mono ?_; rintro e w4 ⟨rfl, hT, hb⟩; have HT4 := Lib.hid hT; have HBw4 := Lib.hid hb; obtain ⟨y1, y2, y3, y4⟩ := Two.four hT; have hsw4 := hb.size; clear hT hb))
          all_goals
            go_wp2_with fail
            go_meet
            exact ⟨A.free N, HT4.out, HL.out.2, (((below_draws HBX.out.1 1).trans HBw3.out).trans HBw4.out)⟩
        by_cases hK2 : K = 2
        · subst hK2
          clear hK0 hK1
          go_wp2_with fail
          refine (two_get HT0.out N At).mono ?_
          rintro e w3 ⟨rfl, rfl⟩
          go_wp2_with fail
          refine (two_rget HT0.out N At).mono ?_
          rintro e w4 ⟨rfl, hT, hb⟩
          have HT4 := Lib.hid (hT.below (w' := w4.alloc (.cells #[.int .u64 (A.getW N At), .bool (A.inB N At)] 39)) ((Below.refl _ _).alloc (Nat.le_refl _) _))
          have HB4 := Lib.hid (HBX.out.1.trans (hb.mono (by simp; omega)))
          have hs4 := HB4.out.size
          have HB5' := Lib.hid (HB4.out.alloc (by omega) (.cells #[.int .u64 (A.getW N At), .bool (A.inB N At)] 39))
          obtain ⟨z1, z2, z3, z4⟩ := Two.four hT
          clear hT hb
          go_wp2_with fail
          go_meet
          exact ⟨A, HT4.out, HL.out.2, HB5'.out⟩
        by_cases hK3 : K = 3
        · subst hK3
          clear hK0 hK1 hK2
          go_wp2_with fail
          have HT0d := Lib.hid (Two.drew HT0.out)
          obtain ⟨d1, d2, d3, d4⟩ := Two.four HT0d.out
          go_region_held3 (fun w' => w'.cell? ⟨wr.heap.size, 1, none⟩ = some (.int .i64 N) ∧ w'.cell? ⟨wr.heap.size, 2, none⟩ = some (.int .i64 At) ∧ w'.cell? ⟨wr.heap.size, 3, none⟩ = some (.int .u64 X)) (first | exact ⟨d1, d2, d3⟩ | exact ⟨y1, y2, y3⟩) (first
            | (go_at_call 16; refine (two_set HT0d.out (by simp; omega) N At X HWX.out).mono ?_; rintro e w3 ⟨rfl, hT, hb⟩; have HT3 := Lib.hid hT; have HBw3 := Lib.hid hb; obtain ⟨y1, y2, y3, y4⟩ := Two.four hT; have hsw3 := hb.size; clear hT hb)
            | (go_at_call 16; refine (two_set HT3.out (by omega) N At X HWX.out).mono ?_; rintro e w4 ⟨rfl, hT, hb⟩; have HT4 := Lib.hid hT; have HBw4 := Lib.hid hb; obtain ⟨y1, y2, y3, y4⟩ := Two.four hT; have hsw4 := hb.size; clear hT hb)
            | (go_at_call 17; refine (two_rset HT0d.out (by simp; omega) N At X HWX.out).mono ?_; rintro e w3 ⟨rfl, hT, hb⟩; have HT3 := Lib.hid hT; have HBw3 := Lib.hid hb; obtain ⟨y1, y2, y3, y4⟩ := Two.four hT; have hsw3 := hb.size; clear hT hb)
            | (go_at_call 17; refine (two_rset HT3.out (by omega) N At X HWX.out).mono ?_; rintro e w4 ⟨rfl, hT, hb⟩; have HT4 := Lib.hid hT; have HBw4 := Lib.hid hb; obtain ⟨y1, y2, y3, y4⟩ := Two.four hT; have hsw4 := hb.size; clear hT hb))
          all_goals
            go_wp2_with fail
            go_meet
            exact ⟨A.set N At X, HT4.out, (set_length A N At X).trans HL.out.2, (((below_draws HBX.out.1 1).trans HBw3.out).trans HBw4.out)⟩
        by_cases hK4 : K = 4
        · subst hK4
          clear hK0 hK1 hK2 hK3
          have hth : A.there N = decide (0 ≤ A.size N) := by
            unfold Ar.there Ar.size
            cases A.find N <;> simp
          have HTH := Lib.hid hth
          clear hth
          by_cases hsz0 : 0 ≤ A.size N
          all_goals
            have hd : A.there N = decide (0 ≤ A.size N) := HTH.out
            simp only [hsz0, decide_true, decide_false] at hd
            go_wp2_with fail
            refine (two_words HT0.out N).mono ?_
            rintro e w3 ⟨v3, he, hv3, hT, hb⟩
            rw [hd] at he
            subst he
            have HT3 := Lib.hid hT
            have HB3 := Lib.hid hb
            have HV3 := Lib.hid hv3
            obtain ⟨y1, y2, y3, y4⟩ := Two.four hT
            have hs3 := hb.size
            clear hT hb hv3 hd
            go_wp2_with fail
            refine (two_rsize HT3.out N).mono ?_
            rintro e w4 ⟨rfl, rfl⟩
            go_wp2_with fail
            refine (two_rwords HT3.out N).mono ?_
            rintro e w4 ⟨v4, rfl, hv4, rfl⟩
            have HV4 := Lib.hid hv4
            clear hv4
            go_wp2_with fail
            refine (keepWords_h HV3.out HV4.out (region_short HT3.out.ok N) (b := true) (by simp)).mono ?_
            rintro e w4 ⟨rfl, hb⟩
            have HT4 := Lib.hid (HT3.out.below hb)
            have HB4 := Lib.hid (below_chain3 HBX.out.1 HB3.out hb)
            clear hb
            go_wp2_with fail
            go_meet
            exact ⟨A, HT4.out, HL.out.2, HB4.out⟩
        have d0 : (K == 0) = false := by rw [beq_eq_false_iff_ne]; exact hK0
        have d1 : (K == 1) = false := by rw [beq_eq_false_iff_ne]; exact hK1
        have d2 : (K == 2) = false := by rw [beq_eq_false_iff_ne]; exact hK2
        have d3 : (K == 3) = false := by rw [beq_eq_false_iff_ne]; exact hK3
        have d4 : (K == 4) = false := by rw [beq_eq_false_iff_ne]; exact hK4
        clear hK0 hK1 hK2 hK3 hK4
        go_wp2_with fail
        go_meet
        exact ⟨A, HT0.out, HL.out.2, HBX.out.1⟩
      case rest =>
        obtain ⟨A1, hT1, hL1, hB1⟩ := hcut
        have HT1 := Lib.hid hT1
        have HB1 := Lib.hid hB1
        have HL1 := Lib.hid hL1
        have hs1 := hB1.size
        clear hT1 hL1 hB1 HL HT0 HBX HN HWX p0 p1 p2' p3
        go_wp2_with fail
        have HPL : Hid ((pairI (A1).rs).length ≤ 140737488355328) := by
          have := HT1.out.ok.chain.len
          have := HT1.out.ok.max
          show ((A1).rs.map fun r => ((r.1 : Int), (r.2 : Int))).length ≤ _
          rw [List.length_map]
          omega
        have HLEN : Hid ((A1).ws.length = n) := HL1.out
        have HTd := Lib.hid (Two.drew HT1.out)
        have HBd := Lib.hid (below_draws (HB1.out) 1)
        obtain ⟨hp2, ra, rc, hrg, hrd⟩ := HTd.out.regs
        have HRD := Lib.hid hrd
        clear hrd
        go_region_with (first
          | (go_at_call 23; refine (two_regions HTd.out).mono ?_; rintro e w5 ⟨v5, rfl, hv5, hT5, hb5⟩; have HT5 := Lib.hid hT5; have HV5 := Lib.hid hv5; have HB5 := Lib.hid hb5; have hrg5 := (HRD.out _ hb5).2; clear hT5 hv5 hb5)
          | (go_at_call 22; refine (keepPairs_h (xs := pairI A1.rs) (ys := pairI A1.rs) (by rw [← pairs_pairI]; simpa [pairI] using HV5.out) (by rw [← pairs_pairI]; simpa [pairI] using (HRD.out _ HB5.out).1) HPL.out (b := true) (by simp)).mono ?_; rintro e w6 ⟨rfl, hb6⟩; have HB6 := Lib.hid hb6; have HT6 := Lib.hid (HT5.out.below hb6); clear hb6)
          | (go_at_call 24; refine (two_len HT6.out).mono ?_; rintro e w7 ⟨rfl, rfl⟩; rw [HLEN.out]))
        all_goals
          go_wp2
          go_roundw
          case rel => exact ⟨k + 1, A1, by omega, by go_num, ⟨Two.alike HT6.out, HLEN.out⟩, below_chain3 HBd.out HB5.out HB6.out⟩
          case measure => simp [intOf]; omega
    · obtain rfl : k = n1 := by omega
      go_wp2_with fail
      refine (wakes_any _).mono ?_
      rintro e w3 ⟨rfl, b3⟩
      go_wp2
      go_ret
      exact ⟨rfl, below_chain hb b3⟩

theorem walk (a0 : Int) (v1 : Value) (n1 : Nat) (f1 : Nat → Nat → Int) (w : World) (hw0 : (Lit.int .i64 a0).wf = true) (hr1 : structsAt w v1 n1 [.i64, .i64, .i64, .u64] f1) (hm1 : n1 ≤ maxLen) :
    Calls Try.prog 3 #[.int .i64 a0, v1] w fun e w' => e = .returned (.bool true) ∧ Below w.heap.size w w' := by
  by_cases h : a0 < 1 ∨ 20000 < a0
  · exact plays_no a0 v1 n1 f1 w hr1 hm1 h
  · obtain ⟨n, rfl⟩ := Int.eq_ofNat_of_zero_le (a := a0) (by omega)
    by_cases hn : 80 < n1
    · exact plays_long n v1 n1 f1 w hr1 hm1 (by omega) (by omega) hn
    · exact plays_yes n v1 n1 f1 w hr1 (by omega) (by omega) (by omega)

theorem contract (H : Type) (enc : TypeId × Value → H) (W : World) (base : Nat) (args : Array Value) (ds gs : List (DataW H)) (before : List MemPlace)
    (hval0 : ∀ (j : Nat) t v, Try.f3.params[j]? = some t → args[j]? = some v → Value.okWide Try.prog W .any base t v)
    (hW : DataW.Whole enc Try.prog Try.f3.params.toList Rows.arenaPlaysSpec.vars false W args.toList ds gs before) :
    Calls Try.prog 3 args W fun e W' => ∃ v, e = .returned v ∧ Rows.arenaPlaysSpec.post enc Try.prog Try.f3 false true false false W args v W' := by
  have hW' := hW
  have hval := hval0
  obtain ⟨p, q, hA0, hV, rfl, hfz, hnd⟩ := hW
  have hA : DataW.TrodAll enc Try.prog W 0 (fun _ => true) true Try.f3.params.toList args.toList ds p := hA0
  rw [Try.params3] at hA hval
  obtain ⟨rfl, rfl⟩ := trodVars_none hV
  obtain ⟨v0, vs0, d0, ds0, p0, q0, hargs, rfl, rfl, h0, r0⟩ := trodAll_cons hA
  obtain ⟨v1, vs1, d1, ds1, p1, q1, rfl, rfl, rfl, h1, r1⟩ := trodAll_cons r0
  obtain ⟨rfl, rfl, rfl⟩ := trodAll_nil r1
  obtain rfl : args = #[v0, v1] := by cases args; simp_all
  obtain ⟨a0, rfl, rfl, rfl, w0⟩ := open_int Try.underlying3 (hval 0 3 v0 rfl rfl) h0
  obtain ⟨n1, f1, hr1, hm1⟩ := open_slice_struct [.i64, .i64, .i64, .u64] Try.underlying22 (by kernel_rfl) (by kernel_rfl) ⟨_, rfl⟩ (hval 1 22 v1 rfl rfl) h1
  refine (walk a0 v1 n1 f1 W w0 hr1 hm1).mono fun e W' ⟨he, hb⟩ => ?_
  subst he
  exact ⟨_, rfl, law_post laidOut (by kernel_rfl) rfl (by kernel_rfl) Try.underlying4 hW' rfl rfl rfl hb⟩

set_option maxRecDepth 100000 in
theorem lifted (os : Os) (started : os.Started) (H : Type) (enc : TypeId × Value → H) :
    ReturnsInHanded {} Try.checked os 3 .any (Rows.arenaPlaysSpec.pre6 enc Try.prog Try.f3 Rows.arenaPlaysRow.domain false) (Rows.arenaPlaysSpec.post enc Try.prog Try.f3 false true false false) := by
  refine returnsInHanded_of_change (C := Try.checked) own started (by kernel_rfl) Try.func3
    (ChangeSpec.witness6 (enc := enc) (C := Try.checked) false ⟨#[], #[.int .i64 0, .slice none 0 0], []⟩ 8 (by kernel_rfl) (by kernel_rfl) (by kernel_rfl) (by kernel_rfl)) ?_
  intro W base args ds gs before hval hW _ _
  exact contract H enc W base args ds gs before hval hW

theorem over : Rows.arenaPlaysRow.holds Try.pinned (OpenSpec.ofChange Rows.arenaPlaysSpec) :=
  OpenClaim.holds_of_wide 3 Try.f3 rfl rfl rfl rfl rfl rfl rfl ⟨rfl, rfl, rfl, rfl, rfl⟩ rfl rfl rfl rfl rfl (by kernel_rfl) Try.func3 (by kernel_rfl)
    (of_decide_eq_true (by kernel_rfl)) (by unfold Func.isWrapper; first | (rw [if_pos (by decide +kernel)]; kernel_rfl) | (rw [if_neg (by decide +kernel)]; exact ⟨rfl, rfl⟩))
    (fun os started H enc _ => lifted os started H enc)

theorem proved : Rows.ArenaPlaysSaid := over
#print axioms proved
end Go.Proofs.Ythpkobogphegjaa.arenaPlays
