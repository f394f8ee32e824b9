/-
  Package frame: Start, the machine that begins with a program's first function.
  Conditions: as each states.
-/
import Derived.Test.YtjkneniakeffnaaDoorFc
import Derived.Test.YtjkneniakeffnaaDoorFp
import Derived.Test.YtjkneniakeffnaaDoorCoJ
namespace Go.Proofs.YtjkneniakeffnaaDoor
open Go.ChangeShapes Go.WideShapes Go.ChangeAt Go.RowKit
set_option linter.unusedVariables false
set_option linter.unusedSimpArgs false
set_option maxRecDepth 100000

def startNo (y0 y1 y2 y3 : Int) : PMa := ⟨y0, y1, y2, y3, [], [], [], 7, 1, 0⟩
def startYes (y0 y1 y2 y3 : Int) (L : Nat) : PMa := ⟨y0, y1, y2, y3, List.replicate L 1, [(0, 0, 0, 1)], [], 0, 1, 0⟩
def startP (y0 y1 y2 y3 : Int) (P : PPr) : PMa := if prG P = true then startYes y0 y1 y2 y3 (P.1.headD (0, 0, [])).1.toNat else startNo y0 y1 y2 y3
theorem int_0 (w : World) : Calls Tryd.prog 16 #[.int .i64 0] w fun e w' => e = .returned (.int .u64 1) ∧ w = w' := int_any 0 w
theorem cgoodF_is {S : Nat → Prop} {P : PPr} {b : Bool} (hb : prG P = b) (v1 v2 v3 : Value) (w : World) (T : OpTab w) (h : prAt S w v1 v2 v3 P) (hF : prF P) :
    Calls Tryd.prog 17 #[.agg #[v1, v2, v3]] w fun e w' => e = .returned (.bool b) ∧ Below w.heap.size w w' := hb ▸ codeGood_any v1 v2 v3 P w T h hF
/-- Start's own blocks. -/
structure StIn (w W : World) (ps cs : List Value) (ys : List Value) : Prop where
  ry : rowAt W w.heap.size 30 ys
  rp : rowAt W (w.heap.size + 1) 44 ps
  r2 : rowAt W (w.heap.size + 2) 34 [.int .i64 0, .int .i64 0, .int .i64 0, .int .i64 0, .slice none 0 0, .slice none 0 0, .slice none 0 0, .int .i64 0, .int .u64 0, .int .i64 0]
  r3 : rowAt W (w.heap.size + 3) 34 cs
  hb : Below w.heap.size w W
theorem StIn.more {w W W' : World} {ps cs ys : List Value} (h : StIn w W ps cs ys) (hb : Below W.heap.size W W') : StIn w W' ps cs ys :=
  ⟨h.ry.below hb h.ry.lt, h.rp.below hb h.rp.lt, h.r2.below hb h.r2.lt, h.r3.below hb h.r3.lt, down_call h.hb hb⟩
theorem StIn.set {w W : World} {ps cs ys : List Value} (h : StIn w W ps cs ys) (i : Nat) (v : Value) : StIn w (W.setCell ⟨w.heap.size + 3, i, none⟩ v) ps (cs.set i v) ys :=
  ⟨h.ry.other _ _ (by simp), h.rp.other _ _ (by simp), h.r2.other _ _ (by simp), h.r3.set i v, down_set h.hb (by simp) _⟩

theorem StIn.drew {w W : World} {ps cs ys : List Value} (h : StIn w W ps cs ys) : StIn w W.drew ps cs ys := ⟨h.ry, h.rp, h.r2, h.r3, down_drew h.hb⟩
set_option maxHeartbeats 4000000 in
theorem start_any {S : Nat → Prop} {w : World} {y0 y1 y2 y3 : Int} {v1 v2 v3 : Value} {P : PPr} (TT : OpTab w) (h : prAt S w v1 v2 v3 P) (hF : prF P) :
    Calls Tryd.prog 9 #[.agg #[.int .i64 y0, .int .i64 y1, .int .i64 y2, .int .i64 y3], .agg #[v1, v2, v3]] w (ThPost w (startP y0 y1 y2 y3 P)) := by
  obtain ⟨W, hW⟩ : ∃ W, ((w.alloc (.cells #[.int .i64 y0, .int .i64 y1, .int .i64 y2, .int .i64 y3] 30)).alloc (.cells #[v1, v2, v3] 44)).alloc (.cells #[.int .i64 0, .int .i64 0, .int .i64 0, .int .i64 0, .slice none 0 0, .slice none 0 0, .slice none 0 0, .int .i64 0, .int .u64 0, .int .i64 0] 34) = W := ⟨_, rfl⟩
  have BW := Lib.hid (show Below w.heap.size w W by rw [← hW]; exact down_alloc (down_alloc (down_alloc (Below.refl _ _) _) _) _)
  have RY := Lib.hid (show rowAt W w.heap.size 30 [.int .i64 y0, .int .i64 y1, .int .i64 y2, .int .i64 y3] by rw [← hW]; exact ((rowAt.made w 30 _).alloc _).alloc _)
  have RP := Lib.hid (show rowAt W (w.heap.size + 1) 44 [v1, v2, v3] by rw [← hW]; exact (rowAt.made_at (w := w.alloc (.cells #[.int .i64 y0, .int .i64 y1, .int .i64 y2, .int .i64 y3] 30)) (b := w.heap.size + 1) 44 [v1, v2, v3] (by simp)).alloc _)
  have R2 := Lib.hid (show rowAt W (w.heap.size + 2) 34 [.int .i64 0, .int .i64 0, .int .i64 0, .int .i64 0, .slice none 0 0, .slice none 0 0, .slice none 0 0, .int .i64 0, .int .u64 0, .int .i64 0] by rw [← hW]; exact rowAt.made_at (w := (w.alloc (.cells #[.int .i64 y0, .int .i64 y1, .int .i64 y2, .int .i64 y3] 30)).alloc (.cells #[v1, v2, v3] 44)) (b := w.heap.size + 2) 34 [.int .i64 0, .int .i64 0, .int .i64 0, .int .i64 0, .slice none 0 0, .slice none 0 0, .slice none 0 0, .int .i64 0, .int .u64 0, .int .i64 0] (by simp))
  have HS : W.heap.size = w.heap.size + 3 := by rw [← hW]; simp
  have TT' := Lib.hid TT
  have HP := Lib.hid h
  have HF := Lib.hid hF
  obtain ⟨a1, c1, rfl⟩ := h.1.slice
  obtain ⟨a2, c2, rfl⟩ := h.2.1.slice
  obtain ⟨a3, c3, rfl⟩ := h.2.2.slice
  clear h hF TT
  go_enter Tryd.func9, Tryd.ntmps9
  go_upto_region 1 with fail
  have y0' : W.cell? ⟨w.heap.size, 0, none⟩ = some (.int .i64 y0) := RY.out.cell 0
  have y1' : W.cell? ⟨w.heap.size, 1, none⟩ = some (.int .i64 y1) := RY.out.cell 1
  have y2' : W.cell? ⟨w.heap.size, 2, none⟩ = some (.int .i64 y2) := RY.out.cell 2
  have y3' : W.cell? ⟨w.heap.size, 3, none⟩ = some (.int .i64 y3) := RY.out.cell 3
  go_cut [5] (fun v wx => v = .pointer (some ⟨w.heap.size + 3, 0, none⟩) ∧ StIn w wx [.slice a1 P.1.length c1, .slice a2 P.2.1.length c2, .slice a3 P.2.2.length c3] [.int .i64 y0, .int .i64 y1, .int .i64 y2, .int .i64 y3, .slice none 0 0, .slice none 0 0, .slice none 0 0, .int .i64 7, .int .u64 1, .int .i64 0] [.int .i64 y0, .int .i64 y1, .int .i64 y2, .int .i64 y3])
  case first =>
    have FIN : StIn w (W.alloc (.cells #[.int .i64 y0, .int .i64 y1, .int .i64 y2, .int .i64 y3, .slice none 0 0, .slice none 0 0, .slice none 0 0, .int .i64 7, .int .u64 1, .int .i64 0] 34)).drew [.slice a1 P.1.length c1, .slice a2 P.2.1.length c2, .slice a3 P.2.2.length c3] [.int .i64 y0, .int .i64 y1, .int .i64 y2, .int .i64 y3, .slice none 0 0, .slice none 0 0, .slice none 0 0, .int .i64 7, .int .u64 1, .int .i64 0] [.int .i64 y0, .int .i64 y1, .int .i64 y2, .int .i64 y3] :=
      ⟨RY.out.alloc _, RP.out.alloc _, R2.out.alloc _, rowAt.made_at _ _ HS.symm, down_drew (down_alloc BW.out _)⟩
    have FN := Lib.hid FIN
    clear FIN
    go_region_with (go_at_call 16; refine (int_0 _).mono ?_; rintro e w4 ⟨rfl, rfl⟩)
    all_goals
      go_wp2_with fail
      go_meet
      exact ⟨rfl, FN.out⟩
  case rest =>
    obtain ⟨rfl, hI⟩ := hcut
    have I := Lib.hid hI
    have z0 : wc.cell? ⟨w.heap.size + 1, 0, none⟩ = some (.slice a1 P.1.length c1) := I.out.rp.cell 0
    have z1 : wc.cell? ⟨w.heap.size + 1, 1, none⟩ = some (.slice a2 P.2.1.length c2) := I.out.rp.cell 1
    have z2 : wc.cell? ⟨w.heap.size + 1, 2, none⟩ = some (.slice a3 P.2.2.length c3) := I.out.rp.cell 2
    clear hI hW y0' y1' y2' y3' HS
    cases hg : prG P
    · have HG := Lib.hid hg
      clear hg
      go_wp2_with fail
      refine (cgoodF_is HG.out _ _ _ _ (TT'.out.below I.out.hb) (HP.out.below I.out.hb) HF.out).mono ?_
      rintro e w2 ⟨rfl, hb⟩
      have J := Lib.hid (I.out.more hb)
      obtain ⟨e0, e1, e2, e3, e4, e5, e6, e7, e8, e9⟩ := cells10 J.out.r3
      obtain ⟨v0, v1, v2, v3, v4, v5, v6, v7, v8, v9⟩ := cells10 J.out.r2
      obtain ⟨m0, m1, m2, m3, m4, m5, m6, m7, m8, m9⟩ := frees10 J.out.r2
      have vl := J.out.r2.lt
      have E := Lib.hid (show startP y0 y1 y2 y3 P = startNo y0 y1 y2 y3 by unfold startP; rw [if_neg (by rw [HG.out]; decide)])
      clear hb
      go_wp2_with fail
      refine bodyPost_ret (v := maV y0 y1 y2 y3 (.slice none 0 0) (.slice none 0 0) (.slice none 0 0) 7 1 0) (by simp [results, Tryd.results9, go_sem, v0, v1, v2, v3, v4, v5, v6, v7, v8, v9]) rfl ?_
      rw [E.out]
      refine ⟨_, _, _, rfl, ⟨rd_nil, rd_nil, rd_nil⟩, ?_⟩
      iterate 10 refine down_set ?_ (by dsimp only; omega) _
      exact J.out.hb
    · have HG := Lib.hid hg
      obtain ⟨f0, fs, hP⟩ : ∃ f0 fs, P.1 = f0 :: fs := by
        have h1 : fnsG P.1 = true := by unfold prG at hg; simp only [Bool.and_eq_true] at hg; exact hg.2.1
        cases hq : P.1 with
        | nil => rw [hq] at h1; exact absurd h1 (by decide)
        | cons a b => exact ⟨a, b, rfl⟩
      have hL : 0 ≤ f0.1 ∧ f0.1 < 61 := by
        have h1 : fnsG P.1 = true := by unfold prG at hg; simp only [Bool.and_eq_true] at hg; exact hg.2.1
        rw [hP] at h1
        simp only [fnsG, allI, fnK, fnG, belowB, Bool.and_eq_true, decide_eq_true_eq] at h1
        omega
      obtain ⟨L, hL2⟩ : ∃ L : Nat, f0.1 = L := ⟨f0.1.toNat, by omega⟩
      have hL3 : L < 61 := by omega
      have E := Lib.hid (show startP y0 y1 y2 y3 P = startYes y0 y1 y2 y3 L by unfold startP; rw [if_pos HG.out, hP]; simp [hL2])
      have hlen : P.1.length = fs.length + 1 := by rw [hP]; rfl
      have hPt := HP.out.1
      obtain ⟨fb, fo, rfl, hfl, hlc⟩ : ∃ fb fo, a1 = some ⟨fb, fo, none⟩ ∧ fb < w.heap.size ∧ w.cell? ⟨fb, fo, none⟩ = some (.int .i64 (L : Int)) := by
        obtain ⟨a, c, e, h⟩ := hPt
        cases e
        rcases h with h | ⟨b, o, rfl, -, hb, hel⟩
        · omega
        · have h0 := hel 0 f0 (by rw [hP]; rfl)
          refine ⟨b, o, rfl, hb, ?_⟩
          have := h0.1
          rw [hL2] at this
          simpa using this
      have HLC := Lib.hid hlc
      have LEN := Lib.hid hlen
      clear hg hPt hlc hL hL2 hP hlen
      go_wp2_with fail
      refine (cgoodF_is HG.out _ _ _ _ (TT'.out.below I.out.hb) (HP.out.below I.out.hb) HF.out).mono ?_
      rintro e w2 ⟨rfl, hb⟩
      have J := Lib.hid (I.out.more hb)
      have lc2 : w2.cell? ⟨fb, fo, none⟩ = some (.int .i64 (L : Int)) := (J.out.hb.cell (p := ⟨fb, fo, none⟩) hfl).trans HLC.out
      have HFL := Lib.hid (show fb < w2.heap.size from Nat.lt_of_lt_of_le hfl J.out.hb.size)
      obtain ⟨W4, hW4⟩ : ∃ W4, w2.setCell ⟨w.heap.size + 3, 7, none⟩ (.int .i64 0) = W4 := ⟨_, rfl⟩
      have J4 := Lib.hid (show StIn w W4 [.slice (some ⟨fb, fo, none⟩) P.1.length c1, .slice a2 P.2.1.length c2, .slice a3 P.2.2.length c3] [.int .i64 y0, .int .i64 y1, .int .i64 y2, .int .i64 y3, .slice none 0 0, .slice none 0 0, .slice none 0 0, .int .i64 0, .int .u64 1, .int .i64 0] [.int .i64 y0, .int .i64 y1, .int .i64 y2, .int .i64 y3] by rw [← hW4]; exact J.out.set 7 _)
      have J4A := Lib.hid (J4.out.more (down_alloc (Below.refl _ _) (.cells #[.int .u64 1] 24)))
      obtain ⟨e0, e1, e2, e3, e4, e5, e6, e7, e8, e9⟩ := cells10 J.out.r3
      obtain ⟨q0, q1, q2, q3, q4, q5, q6, q7, q8, q9⟩ := frees10 J.out.r3
      have ql := J.out.r3.lt
      have hf4 : Hid (fb < W4.heap.size ∧ W4.cell? ⟨fb, fo, none⟩ = some (.int .i64 (L : Int))) := by
        rw [← hW4]
        refine Lib.hid ⟨by have := HFL.out; simpa [World.setCell] using this, ?_⟩
        exact (cell_upon (Upon.setCell (S := fun k => k = w.heap.size + 3) (w := w2) ⟨w.heap.size + 3, 7, none⟩ (.int .i64 0) rfl) HFL.out (by omega)).trans lc2
      have lc4 := hf4.out.2
      have lc4a : (W4.alloc (.cells #[.int .u64 1] 24)).cell? ⟨fb, fo, none⟩ = some (.int .i64 (L : Int)) := ((down_alloc (Below.refl W4.heap.size W4) (.cells #[.int .u64 1] 24)).cell (p := ⟨fb, fo, none⟩) hf4.out.1).trans lc4
      have pc4 : W4.cell? ⟨w.heap.size + 1, 0, none⟩ = some (.slice (some ⟨fb, fo, none⟩) P.1.length c1) := J4.out.rp.cell 0
      have pc4a : (W4.alloc (.cells #[.int .u64 1] 24)).cell? ⟨w.heap.size + 1, 0, none⟩ = some (.slice (some ⟨fb, fo, none⟩) P.1.length c1) := J4A.out.rp.cell 0
      have SZ := Lib.hid (show (W4.alloc (.cells #[.int .u64 1] 24)).drew.heap.size = W4.heap.size + 1 by simp [World.drew, World.drewN])
      have hR0 : Hid ((W4.alloc (.cells #[.int .u64 1] 24)).drew.cell? ⟨W4.heap.size, 0, none⟩ = some (.int .u64 1)) := Lib.hid (((rowAt.made W4 24 [.int .u64 1])).cell 0)
      have n0 : 0 < P.1.length := by have := LEN.out; omega
      have n1 : (0 : Int) < P.1.length := by omega
      have n2 : (0 : Int) ≤ (L : Int) := by omega
      have HL := Lib.hid hL3
      clear hL3
      go_wp2_with fail
      clear hW4
      go_upto_region 5 with fail
      go_cut [21] (fun _ wx => ∃ g1, StIn w wx [.slice (some ⟨fb, fo, none⟩) P.1.length c1, .slice a2 P.2.1.length c2, .slice a3 P.2.2.length c3] [.int .i64 y0, .int .i64 y1, .int .i64 y2, .int .i64 y3, .slice (some ⟨g1, 0, none⟩) L L, .slice none 0 0, .slice none 0 0, .int .i64 0, .int .u64 1, .int .i64 0] [.int .i64 y0, .int .i64 y1, .int .i64 y2, .int .i64 y3] ∧ rowAt wx g1 24 (repR L 1) ∧ w.heap.size + 3 < g1)
      case first =>
        go_region_with (first
          | (go_at_call 16; refine (int_0 _).mono ?_; rintro e w4 ⟨rfl, rfl⟩)
          | (go_at_call 18
             refine (repeatR_any (n := L) (x := 1) (by have := HL.out; omega) hR0.out).mono ?_
             rintro e w5 ⟨rfl, rr, hb5⟩
             have J5 := Lib.hid (J4A.out.drew.more hb5)
             have RR := Lib.hid (show rowAt w5 (W4.heap.size + 1) 24 (repR L 1) by rw [← SZ.out]; exact rr)
             have LT5 := Lib.hid (show w.heap.size + 3 < W4.heap.size + 1 by rw [← SZ.out]; exact J4A.out.drew.r3.lt)
             have x4 : w5.cell? ⟨w.heap.size + 3, 4, none⟩ = some (.slice none 0 0) := (J5.out.r3.cell 4).trans rfl
             have x4f := J5.out.r3.free 4
             have x4l := J5.out.r3.lt
             clear rr hb5))
        all_goals
          go_wp2_with fail
          go_meet
          exact ⟨_, J5.out.set 4 _, RR.out.other _ _ (Nat.ne_of_gt LT5.out), LT5.out⟩
      case rest =>
        obtain ⟨g1, k1, k2, k3⟩ := hcut
        have Q1 := Lib.hid k1
        have Q2 := Lib.hid k2
        have Q3 := Lib.hid k3
        clear k1 k2 k3
        obtain ⟨W6, hW6⟩ : ∃ W6, wc.alloc (.cells #[.int .i64 0, .int .i64 0, .int .i64 0, .int .u64 1] 27) = W6 := ⟨_, rfl⟩
        have F6 := Lib.hid (show rowAt W6 wc.heap.size 27 [.int .i64 0, .int .i64 0, .int .i64 0, .int .u64 1] by rw [← hW6]; exact rowAt.made _ _ _)
        have b6 : Below wc.heap.size wc W6 := by rw [← hW6]; exact down_alloc (Below.refl _ _) _
        have I6 := Lib.hid (Q1.out.more b6)
        have S6 := Lib.hid (Q2.out.below b6 Q2.out.lt)
        obtain ⟨g2, hg2⟩ : ∃ g2, wc.heap.size = g2 := ⟨_, rfl⟩
        have LG := Lib.hid (show w.heap.size + 3 < g2 by rw [← hg2]; exact Q1.out.r3.lt)
        rw [hg2] at F6
        obtain ⟨W7, hW7⟩ : ∃ W7, W6.setCell ⟨w.heap.size + 3, 5, none⟩ (.slice (some ⟨g2, 0, none⟩) 1 1) = W7 := ⟨_, rfl⟩
        have I7 := Lib.hid (show StIn w W7 [.slice (some ⟨fb, fo, none⟩) P.1.length c1, .slice a2 P.2.1.length c2, .slice a3 P.2.2.length c3] [.int .i64 y0, .int .i64 y1, .int .i64 y2, .int .i64 y3, .slice (some ⟨g1, 0, none⟩) L L, .slice (some ⟨g2, 0, none⟩) 1 1, .slice none 0 0, .int .i64 0, .int .u64 1, .int .i64 0] [.int .i64 y0, .int .i64 y1, .int .i64 y2, .int .i64 y3] by rw [← hW7]; exact I6.out.set 5 _)
        have F7 := Lib.hid (show rowAt W7 g2 27 [.int .i64 0, .int .i64 0, .int .i64 0, .int .u64 1] by rw [← hW7]; exact F6.out.other _ _ (Nat.ne_of_gt LG.out))
        have S7 := Lib.hid (show rowAt W7 g1 24 (repR L 1) by rw [← hW7]; exact S6.out.other _ _ (Nat.ne_of_gt Q3.out))
        have x5 : W6.cell? ⟨w.heap.size + 3, 5, none⟩ = some (.slice none 0 0) := (I6.out.r3.cell 5).trans rfl
        have x5f := I6.out.r3.free 5
        have x5l := I6.out.r3.lt
        obtain ⟨e0, e1, e2, e3, e4, e5, e6, e7, e8, e9⟩ := cells10 I7.out.r3
        obtain ⟨v0, v1, v2, v3, v4, v5, v6, v7, v8, v9⟩ := cells10 I7.out.r2
        obtain ⟨m0, m1, m2, m3, m4, m5, m6, m7, m8, m9⟩ := frees10 I7.out.r2
        have vl := I7.out.r2.lt
        have FIN : ∀ WF, Upon (fun k => k = w.heap.size + 2) W7 WF → ThPost w (startP y0 y1 y2 y3 P) (.returned (maV y0 y1 y2 y3 (.slice (some ⟨g1, 0, none⟩) L L) (.slice (some ⟨g2, 0, none⟩) 1 1) (.slice none 0 0) 0 1 0)) WF := fun WF hu => by
          have q3 := Q3.out
          have lg := LG.out
          rw [E.out]
          refine ⟨_, _, _, rfl, ⟨?_, ?_, rd_nil⟩, I7.out.hb.trans (hu.belowB I7.out.hb.size fun k hk => by omega)⟩
          · simp only [startYes, List.length_replicate]
            exact rd_row (S7.out.upon hu (by omega)) (by omega) fun _ _ h => by simpa [repR] using h
          · simp only [startYes]
            exact rd_row (F7.out.upon hu (by omega)) (by omega) fun _ _ h => by simpa [frL, frC] using h
        have FN := Lib.hid FIN
        clear FIN b6
        go_wp2_with fail
        refine (int_0 _).mono ?_
        rintro e w8 ⟨rfl, rfl⟩
        go_wp2_with fail
        refine bodyPost_ret (v := maV y0 y1 y2 y3 (.slice (some ⟨g1, 0, none⟩) L L) (.slice (some ⟨g2, 0, none⟩) 1 1) (.slice none 0 0) 0 1 0) (by simp [results, Tryd.results9, go_sem, v0, v1, v2, v3, v4, v5, v6, v7, v8, v9]) rfl (FN.out _ ?_)
        iterate 10 refine Upon.set1 ?_ (by rfl) _
        exact Upon.refl _ _
end Go.Proofs.YtjkneniakeffnaaDoor
