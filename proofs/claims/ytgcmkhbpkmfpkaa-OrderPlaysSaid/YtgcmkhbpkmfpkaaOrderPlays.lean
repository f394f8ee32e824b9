/-
  Proved of the Go function OrderPlays: it returns true for every argument (a queue's calls, one behind the other: each answer, all entries). Conditions: none.
-/
import Derived.Test.YtgcmkhbpkmfpkaaArgs
import Derived.Test.YtgcmkhbpkmfpkaaQU
import Derived.Deep.RegionHeld3
import Derived.Deep.DeepCutAuto
import Derived.Deep.CutBlock
namespace Go.Proofs.Ytgcmkhbpkmfpkaa.orderPlays
open Go.ChangeShapes Go.WideShapes Go.ChangeAt Go.RowKit
set_option linter.unusedVariables false
set_option linter.unusedSimpArgs false
set_option linter.unusedVariables false
set_option maxRecDepth 100000

theorem own : ownKnob Try.prog.godebug = none := by kernel_rfl
theorem laidOut : laidOutB Try.prog = true := by kernel_rfl

/-- Both queues between two rounds. -/
def Play (B q pr : Nat) (s : List En) (w : World) : Prop :=
  B ≤ w.heap.size ∧ ∃ F a c, QH w q F s ∧ RefQ w pr a c s ∧ ¬ F pr ∧ (s.length = 0 ∨ ∀ x, a = some x → ¬ F x.block) ∧ (∀ k, F k → B ≤ k) ∧ B ≤ pr ∧ (s.map (·.1)).Nodup
theorem Play.box {B q pr : Nat} {s : List En} {w : World} (h : Play B q pr s w) (xs : List Value) : Duo B q pr w.heap.size xs s s (w.alloc (.cells ⟨xs⟩ 31)) := by
  obtain ⟨hB, F, a, c, h1, h2, h3, h4, h5, h6, h7⟩ := h
  have hx : Upon (fun _ => False) w (w.alloc (.cells ⟨xs⟩ 31)) := Upon.alloc _ _ _
  exact ⟨by simp; omega, F, a, c, h1.upon hx fun _ _ h => h, h2.upon hx fun _ _ h => h, h3, h4, h5, h6, rowAt.made _ _ _, fun hF => by have := h1.lt _ hF; omega, by have := h2.root.lt; omega, h7⟩
theorem Play.of {B q pr bx : Nat} {xs : List Value} {s : List En} {w : World} (h : Duo B q pr bx xs s s w) : Play B q pr s w := by
  obtain ⟨hB, F, a, c, h⟩ := h
  exact ⟨hB, F, a, c, h.l, h.r, h.fp, h.fa, h.fB, h.pB, h.nd⟩
theorem Duo.p {B q pr bx : Nat} {xs : List Value} {s1 s2 : List En} {w : World} (h : Duo B q pr bx xs s1 s2 w) : ∃ a c, w.cell? ⟨pr, 0, none⟩ = some (.slice a s2.length c) ∧ readsAt w (.slice a s2.length c) s2.length (pairsL s2) := by
  obtain ⟨hB, F, a, c, h⟩ := h
  exact ⟨a, c, (h.r.root.cell 0).trans rfl, h.r.reads⟩
theorem duo_list {B q pr bx : Nat} {xs : List Value} {s1 s2 : List En} {w : World} (h : Duo B q pr bx xs s1 s2 w) :
    Calls Try.prog 14 #[.pointer (some ⟨q, 0, none⟩)] w fun e w' => ∃ v, e = .returned v ∧ readsAt w' v s1.length (pairsL s1) ∧ Duo B q pr bx xs s1 s2 w' ∧ Below w.heap.size w w' := by
  have h0 := h
  obtain ⟨hB, F, a, c, h⟩ := h
  exact (qlist_any h.l).mono fun e w' ⟨v, he, ho, hb⟩ => ⟨v, he, readsAt.of_owns ho, h0.more hb, hb⟩
theorem duo_len {B q pr bx : Nat} {xs : List Value} {s1 s2 : List En} {w : World} (h : Duo B q pr bx xs s1 s2 w) :
    Calls Try.prog 15 #[.pointer (some ⟨q, 0, none⟩)] w fun e w' => e = .returned (.int .i64 s1.length) ∧ w = w' := by
  obtain ⟨hB, F, a, c, h⟩ := h
  exact qlen_any h.l

theorem plays_long {w : World} {v : Value} {n : Nat} {f : Nat → Nat → Int} (h : structsAt w v n [.i64, .i64, .i64] f) (hm : n ≤ maxLen) (hn : 120 < n) :
    Calls Try.prog 3 #[v] w fun e w' => e = .returned (.bool true) ∧ Below w.heap.size w w' := by
  unfold maxLen at hm
  obtain ⟨a, c, rfl, h1, h2⟩ := h
  clear h1 h2
  have hn' : (120 : Int) < (n : Int) := by omega
  go_enter Try.func3, Try.ntmps3
  go_wp2_with fail
  refine (qnew_any w).mono ?_
  rintro x w1 ⟨q, F1, rfl, hq, s1⟩
  have S1 := Lib.hid s1
  clear hq s1
  go_wp2_with fail
  refine (wakes_any _).mono ?_
  rintro x w2 ⟨rfl, hb⟩
  have HB := Lib.hid hb
  clear hb
  go_wp2_with fail
  go_ret
  exact ⟨rfl, (S1.out.below.alloc S1.out.upon.size _).trans (HB.out.mono (by have := S1.out.upon.size; simp; omega))⟩

/-- What a step leaves. -/
def Stepped (B q pr bx k : Nat) (xs : List Value) (w wx : World) : Prop := ∃ s, Duo B q pr bx xs s s wx ∧ s.length ≤ k ∧ Below B w wx

set_option maxHeartbeats 16000000 in
theorem plays_yes {w : World} {v : Value} {n : Nat} {f : Nat → Nat → Int} (h : structsAt w v n [.i64, .i64, .i64] f) (hn : n ≤ 120) :
    Calls Try.prog 3 #[v] w fun e w' => e = .returned (.bool true) ∧ Below w.heap.size w w' := by
  obtain ⟨i0, hi, hz0, hz1, hz2⟩ := info_parts info_pairI
  obtain ⟨a1, c1, rfl, hwf1, ha1⟩ := h
  have HA1 := Lib.hid ha1
  clear hwf1 ha1
  have hn' : (n : Int) ≤ 120 := by omega
  go_enter Try.func3, Try.ntmps3
  go_wp2_with fail
  refine (qnew_any w).mono ?_
  rintro x w1 ⟨q, F1, rfl, hq, s1⟩
  have HP : Hid (Play w.heap.size q w1.heap.size [] (w1.alloc (.cells #[.slice none 0 0] 28)) ∧ Below w.heap.size w (w1.alloc (.cells #[.slice none 0 0] 28))) := by
    have hs := s1.upon.size
    have hx : Upon (fun _ => False) w1 (w1.alloc (.cells #[.slice none 0 0] 28)) := Upon.alloc _ _ _
    refine ⟨⟨by simp; omega, F1, none, 0, hq.upon hx fun _ _ h => h, ⟨rowAt.made _ _ _, .inl rfl, Nat.le_refl _, (fun x hx => by cases hx), by simp⟩, fun hF => ?_, .inl rfl, fun k hk => (s1.foot k hk).resolve_left id, hs, by simp⟩, s1.below.alloc hs _⟩
    have := hq.lt _ hF
    omega
  clear hq s1
  go_wp2_with fail
  generalize hpr : w1.heap.size = pr at *
  clear hpr
  go_loopw [5] (fun i wr => ∃ (k : Nat) (s : List En), k ≤ n ∧ i = .int .i64 k ∧ Hid (Play w.heap.size q pr s wr ∧ s.length ≤ k) ∧ Below w.heap.size w wr) (fun i _ => n - (intOf i).toNat)
  case atStart => exact ⟨0, [], Nat.zero_le _, rfl, ⟨HP.out.1, Nat.le_refl _⟩, HP.out.2⟩
  case round =>
    obtain ⟨k, s, hk, rfl, HL, hb⟩ := hrel
    by_cases hlt : k < n
    · rcases HA1.out with h0 | ⟨b3, o3, hab3, hc3⟩
      · omega
      cases hab3
      have q0 := hc3 k 0 .i64 hlt rfl
      have q1 := hc3 k 1 .i64 hlt rfl
      have q2 := hc3 k 2 .i64 hlt rfl
      have hb3 : b3 < w.heap.size := World.block_lt_of_cell? w _ q0
      simp only [List.length_cons, List.length_nil, Nat.zero_add, Nat.add_zero, ← Nat.add_assoc] at q0 q1 q2
      have p0 : wr.cell? ⟨b3, o3 + k * 3, none⟩ = some (.int .i64 (f k 0)) := (hb.cell (p := ⟨b3, o3 + k * 3, none⟩) hb3).trans q0
      have p1 : wr.cell? ⟨b3, o3 + k * 3 + 1, none⟩ = some (.int .i64 (f k 1)) := (hb.cell (p := ⟨b3, o3 + k * 3 + 1, none⟩) hb3).trans q1
      have p2' : wr.cell? ⟨b3, o3 + k * 3 + 2, none⟩ = some (.int .i64 (f k 2)) := (hb.cell (p := ⟨b3, o3 + k * 3 + 2, none⟩) hb3).trans q2
      generalize f k 0 = K at *
      generalize f k 1 = N at *
      generalize f k 2 = R at *
      clear q0 q1 q2 hc3
      have HT0 := Lib.hid (HL.out.1.box [.int .i64 K, .int .i64 N, .int .i64 R])
      have HLS := Lib.hid HL.out.2
      have HBX : Hid (Below w.heap.size w (wr.alloc (.cells #[.int .i64 K, .int .i64 N, .int .i64 R] 31))) := hb.alloc hb.size _
      have hsz := hb.size
      have hki : (k : Int) < (n : Int) := by omega
      have HLT := Lib.hid hlt
      clear hb
      go_upto_block 2 with fail
      go_cut [] (fun wx => Stepped w.heap.size q pr wr.heap.size (k + 1) [.int .i64 K, .int .i64 N, .int .i64 R] w wx)
      case first =>
        by_cases hK0 : K = 0
        · subst hK0
          obtain ⟨b, hb⟩ : ∃ b, hasK N s = b := ⟨_, rfl⟩
          have HHB := Lib.hid hb
          clear hb
          have hsl : s.length < 1000 := by have := HLS.out; omega
          go_wp2_with fail
          have HT0d := Lib.hid (Duo.drew HT0.out)
          obtain ⟨d0, d1, d2⟩ := Duo.x HT0d.out
          go_region_held3 (fun w' => w'.cell? ⟨wr.heap.size, 1, none⟩ = some (.int .i64 N) ∧ w'.cell? ⟨wr.heap.size, 2, none⟩ = some (.int .i64 R)) (first | exact ⟨d1, d2⟩ | exact ⟨y1, y2⟩) (first
            | (go_at_call 8; refine (duo_push HT0d.out N R hsl HHB.out).mono ?_; rintro e w3 ⟨rfl, hT, hbb⟩; have HT3 := Lib.hid hT; have HBw3 := Lib.hid hbb; obtain ⟨y0, y1, y2⟩ := Duo.x hT; clear hT hbb)
            | (go_at_call 8; refine (duo_push HT3.out N R hsl HHB.out).mono ?_; rintro e w4 ⟨rfl, hT, hbb⟩; have HT4 := Lib.hid hT; have HBw4 := Lib.hid hbb; obtain ⟨y0, y1, y2⟩ := Duo.x hT; clear hT hbb)
            | (go_at_call 9; refine (duo_rpush HT0d.out N R hsl HHB.out).mono ?_; rintro e w3 ⟨rfl, hT, hbb⟩; have HT3 := Lib.hid hT; have HBw3 := Lib.hid hbb; obtain ⟨y0, y1, y2⟩ := Duo.x hT; clear hT hbb)
            | (go_at_call 9; refine (duo_rpush HT3.out N R hsl HHB.out).mono ?_; rintro e w4 ⟨rfl, hT, hbb⟩; have HT4 := Lib.hid hT; have HBw4 := Lib.hid hbb; obtain ⟨y0, y1, y2⟩ := Duo.x hT; clear hT hbb))
          all_goals
            cases b <;> (go_wp2_with fail; go_meet; exact ⟨pushS N R s, HT4.out, (by have := length_pushS N R s; have := HLS.out; omega), ((below_draws HBX.out 1).trans HBw3.out).trans HBw4.out⟩)
        by_cases hK1 : K = 1
        · subst hK1
          clear hK0
          cases s with
          | nil =>
            go_wp2_with fail
            refine (duo_pop_none HT0.out).mono ?_
            rintro x w3 ⟨rfl, rfl⟩
            obtain ⟨a4, c4, e0, _⟩ := Duo.p HT0.out
            simp only [List.length_nil] at e0
            go_wp2_with fail
            go_meet
            exact ⟨[], HT0.out, Nat.zero_le _, HBX.out⟩
          | cons e t =>
            obtain ⟨k1, r1⟩ := e
            go_wp2_with fail
            refine (duo_pop HT0.out).mono ?_
            rintro x w3 ⟨rfl, hT, hbb⟩
            have HBw3 := Lib.hid (HBX.out.trans hbb)
            obtain ⟨b, o, c, e0, f0, e1, e2, hc, hcut2⟩ := duo_cut hT
            have HCT := Lib.hid hcut2
            have HLEN : Hid (t.length ≤ k + 1) := by have := HLS.out; simp only [List.length_cons] at this; show _ ≤ _; omega
            have htl : t.length ≤ 1000 := by have := HLS.out; simp only [List.length_cons] at this; omega
            clear hT hbb hcut2
            have z1 : (0 : Int) < (t.length : Int) + 1 := by omega
            by_cases hc1 : c = 1
            · have sl : ∀ w, (Instr.slice 26 (.slice (some ⟨b, o, none⟩) (t.length + 1) c) (some (.int .i64 1)) none none).run Try.prog w = .ok (.slice (some ⟨b, o, none⟩) t.length (c - 1)) w := fun w => by
                have h := run_slice_from_w 26 35 under_pairsI hi (some ⟨b, o, none⟩) (n := t.length + 1) (c := c) (k := 1) (by omega) w
                rw [if_pos hc1] at h
                exact h
              have HE := Lib.hid (HCT.out (some ⟨b, o, none⟩) (fun x hx => .inl hc1) (fun _ x hx => by cases hx; rfl) (fun h => absurd hc1 h))
              clear hc1
              go_wp2_with fail
              go_meet
              exact ⟨t, HE.out.1, HLEN.out, HBw3.out.trans HE.out.2⟩
            · have sl : ∀ w, (Instr.slice 26 (.slice (some ⟨b, o, none⟩) (t.length + 1) c) (some (.int .i64 1)) none none).run Try.prog w = .ok (.slice (some ⟨b, o + 2, none⟩) t.length (c - 1)) w := fun w => by
                have h := run_slice_from_w 26 35 under_pairsI hi (some ⟨b, o, none⟩) (n := t.length + 1) (c := c) (k := 1) (by omega) w
                rw [if_neg hc1, hz1] at h
                exact h
              have HE := Lib.hid (HCT.out (some ⟨b, o + 2, none⟩) (fun x hx => .inr (by cases hx; rfl)) (fun h => absurd h hc1) (fun _ => rfl))
              clear hc1
              go_wp2_with fail
              go_meet
              exact ⟨t, HE.out.1, HLEN.out, HBw3.out.trans HE.out.2⟩
        by_cases hK2 : K = 2
        · subst hK2
          clear hK0 hK1
          obtain ⟨b, hb⟩ : ∃ b, hasK N s = b := ⟨_, rfl⟩
          have HHB := Lib.hid hb
          clear hb
          go_wp2_with fail
          have HT0d := Lib.hid (Duo.drew HT0.out)
          obtain ⟨d0, d1, d2⟩ := Duo.x HT0d.out
          go_region_held3 (fun w' => w'.cell? ⟨wr.heap.size, 1, none⟩ = some (.int .i64 N)) (first | exact d1 | exact y1) (first
            | (go_at_call 11; refine (duo_drop HT0d.out N HHB.out).mono ?_; rintro e w3 ⟨rfl, hT, hbb⟩; have HT3 := Lib.hid hT; have HBw3 := Lib.hid hbb; obtain ⟨y0, y1, y2⟩ := Duo.x hT; clear hT hbb)
            | (go_at_call 11; refine (duo_drop HT3.out N HHB.out).mono ?_; rintro e w4 ⟨rfl, hT, hbb⟩; have HT4 := Lib.hid hT; have HBw4 := Lib.hid hbb; obtain ⟨y0, y1, y2⟩ := Duo.x hT; clear hT hbb)
            | (go_at_call 12; refine (duo_rdrop HT0d.out N HHB.out).mono ?_; rintro e w3 ⟨rfl, hT, hbb⟩; have HT3 := Lib.hid hT; have HBw3 := Lib.hid hbb; obtain ⟨y0, y1, y2⟩ := Duo.x hT; clear hT hbb)
            | (go_at_call 12; refine (duo_rdrop HT3.out N HHB.out).mono ?_; rintro e w4 ⟨rfl, hT, hbb⟩; have HT4 := Lib.hid hT; have HBw4 := Lib.hid hbb; obtain ⟨y0, y1, y2⟩ := Duo.x hT; clear hT hbb))
          all_goals
            cases b <;> (go_wp2_with fail; go_meet; exact ⟨dropS N s, HT4.out, (by have := length_dropS N s; have := HLS.out; omega), ((below_draws HBX.out 1).trans HBw3.out).trans HBw4.out⟩)
        · go_wp2_with fail
          go_meet
          exact ⟨s, HT0.out, (by have := HLS.out; omega), HBX.out⟩
      case rest =>
        obtain ⟨s', hD, hl', hbc⟩ := hcut
        have HD := Lib.hid (Duo.drew hD)
        have HL' := Lib.hid hl'
        have HBC := Lib.hid (below_draws hbc 1)
        have hsl : s'.length ≤ 121 := by omega
        clear hD hl' hbc
        obtain ⟨a4, c4, d0, hr0⟩ := Duo.p HD.out
        have HR0 := Lib.hid hr0
        clear hr0
        go_wp2_with fail
        go_region_held3 (fun w' => w'.cell? ⟨pr, 0, none⟩ = some (.slice a4 s'.length c4)) (first | exact d0 | exact y0 | exact z0) (first
          | (go_at_call 14; refine (duo_list HD.out).mono ?_; rintro e w3 ⟨v3, rfl, hv3, hT, hbb⟩; have HT3 := Lib.hid hT; have HV3 := Lib.hid hv3; have HB3 := Lib.hid hbb; have y0 := (hbb.cell (p := ⟨pr, 0, none⟩) (World.block_lt_of_cell? _ _ d0)).trans d0; have HR3 := Lib.hid (HR0.out.below (by rcases Nat.eq_zero_or_pos s'.length with h | h; exact .inl h; exact .inr (by rw [length_pairsL]; omega)) hbb); clear hT hv3 hbb)
          | (go_at_call 13; refine (qpairs_to (xs := s') (ys := s') (b := true) HV3.out HR3.out (by omega) (by simp)).mono ?_; rintro e w4 ⟨rfl, hbb⟩; have HT4 := Lib.hid (HT3.out.more hbb); have HB4 := Lib.hid hbb; have z0 := (hbb.cell (p := ⟨pr, 0, none⟩) (World.block_lt_of_cell? _ _ y0)).trans y0; clear hbb)
          | (go_at_call 15; refine (duo_len HT4.out).mono ?_; rintro e w5 ⟨rfl, rfl⟩))
        all_goals
          go_wp2_with fail
          go_roundw
          case rel => exact ⟨k + 1, s', by have := HLT.out; omega, by go_num, ⟨Play.of HT4.out, HL'.out⟩, (HBC.out.trans (HB3.out.mono HBC.out.size)).trans (HB4.out.mono (Nat.le_trans HBC.out.size HB3.out.size))⟩
          case measure => simp [intOf]; omega
    · have HB := Lib.hid hb
      clear hb
      go_wp2_with fail
      refine (wakes_any _).mono ?_
      rintro x w3 ⟨rfl, hb3⟩
      have HB3 := Lib.hid hb3
      clear hb3
      go_wp2_with fail
      go_ret
      exact ⟨rfl, HB.out.trans (HB3.out.mono HB.out.size)⟩

theorem walk (v : Value) (n : Nat) (f : Nat → Nat → Int) (W : World) (h : structsAt W v n [.i64, .i64, .i64] f) (hm : n ≤ maxLen) :
    Calls Try.prog 3 #[v] W fun e w' => e = .returned (.bool true) ∧ Below W.heap.size W w' := by
  by_cases hn : n ≤ 120
  · exact plays_yes h hn
  · exact plays_long h hm (by omega)

theorem contract (H : Type) (enc : TypeId × Value → H) (W : World) (base : Nat) (args : Array Value) (ds gs : List (DataW H)) (before : List MemPlace)
    (hval0 : ∀ (j : Nat) t v, Try.f3.params[j]? = some t → args[j]? = some v → Value.okWide Try.prog W .any base t v)
    (hW : DataW.Whole enc Try.prog Try.f3.params.toList Rows.orderPlaysSpec.vars false W args.toList ds gs before) :
    Calls Try.prog 3 args W fun e W' => ∃ v, e = .returned v ∧ Rows.orderPlaysSpec.post enc Try.prog Try.f3 false true false false W args v W' := by
  have hW' := hW
  have hval := hval0
  obtain ⟨p, q, hA0, hV, rfl, hfz, hnd⟩ := hW
  have hA : DataW.TrodAll enc Try.prog W 0 (fun _ => true) true Try.f3.params.toList args.toList ds p := hA0
  rw [Try.params3] at hA hval
  obtain ⟨rfl, rfl⟩ := trodVars_none hV
  obtain ⟨v0, vs0, d0, ds0, p0, q0, hargs, rfl, rfl, h0, r0⟩ := trodAll_cons hA
  obtain ⟨rfl, rfl, rfl⟩ := trodAll_nil r0
  obtain rfl : args = #[v0] := by cases args; simp_all
  obtain ⟨n0, f0, hr0, hm0⟩ := open_slice_struct [.i64, .i64, .i64] Try.underlying22 (by kernel_rfl) (by kernel_rfl) ⟨_, rfl⟩ (hval 0 22 v0 rfl rfl) h0
  refine (walk v0 n0 f0 W hr0 hm0).mono fun e W' ⟨he, hb⟩ => ?_
  subst he
  exact ⟨_, rfl, law_post laidOut (by kernel_rfl) rfl (by kernel_rfl) Try.underlying4 hW' rfl rfl rfl hb⟩

set_option maxRecDepth 100000 in
theorem lifted (os : Os) (started : os.Started) (H : Type) (enc : TypeId × Value → H) :
    ReturnsInHanded {} Try.checked os 3 .any (Rows.orderPlaysSpec.pre6 enc Try.prog Try.f3 Rows.orderPlaysRow.domain false) (Rows.orderPlaysSpec.post enc Try.prog Try.f3 false true false false) := by
  refine returnsInHanded_of_change (C := Try.checked) own started (by kernel_rfl) Try.func3
    (ChangeSpec.witness6 (enc := enc) (C := Try.checked) false ⟨#[], #[.slice none 0 0], []⟩ 8 (by kernel_rfl) (by kernel_rfl) (by kernel_rfl) (by kernel_rfl)) ?_
  intro W base args ds gs before hval hW _ _
  exact contract H enc W base args ds gs before hval hW

theorem over : Rows.orderPlaysRow.holds Try.pinned (OpenSpec.ofChange Rows.orderPlaysSpec) :=
  OpenClaim.holds_of_wide 3 Try.f3 rfl rfl rfl rfl rfl rfl rfl ⟨rfl, rfl, rfl, rfl, rfl⟩ rfl rfl rfl rfl rfl (by kernel_rfl) Try.func3 (by kernel_rfl)
    (of_decide_eq_true (by kernel_rfl)) (by unfold Func.isWrapper; first | (rw [if_pos (by decide +kernel)]; kernel_rfl) | (rw [if_neg (by decide +kernel)]; exact ⟨rfl, rfl⟩))
    (fun os started H enc _ => lifted os started H enc)

theorem proved : Rows.OrderPlaysSaid := over
#print axioms proved
end Go.Proofs.Ytgcmkhbpkmfpkaa.orderPlays
