/-
  Package code: the reader's instruction.
  Conditions: as each states.
-/
import Derived.Test.YtabdbciebhmflaaDoorCoO
namespace Go.Proofs.YtabdbciebhmflaaDoor
open Go.ChangeShapes Go.WideShapes Go.ChangeAt Go.RowKit
set_option linter.unusedVariables false
set_option linter.unusedSimpArgs false
set_option maxRecDepth 100000

theorem RdAt.set {B0 : Nat} {w : World} {p : Nat} {s : Rd} (h : RdAt B0 w p s) {b o : Nat} (v : Value) (hb : b ≠ p) (hB : B0 ≤ b) : RdAt B0 (w.setCell ⟨b, o, none⟩ v) p s :=
  h.upon (T := fun g => g = b) (Upon.setCell _ _ rfl) (fun k _ e => by subst e; exact hB) fun e => hb e.symm
theorem WTab.upon {w w' : World} (T : WTab w) {S : Nat → Prop} (hu : Upon S w w') (hS : ¬ S 0 ∧ ¬ S 1) : WTab w' :=
  ⟨fun k hk => (cell_upon hu T.size.1 hS.1).trans (T.a k hk), fun k hk => (cell_upon hu T.size.2 hS.2).trans (T.b k hk)⟩
/-- Only the reader, and blocks that were made since, have turned. -/
abbrev Since (p : Nat) (w w' : World) : Prop := Upon (fun g => g = p) w w'
theorem Since.below {p : Nat} {a b c : World} (h : Since p a b) (k : Below b.heap.size b c) : Since p a c := h.trans (Upon.of_below (S := fun g => g = p) k) fun _ _ h => h
theorem Since.set {p : Nat} {a b : World} (h : Since p a b) {q : Addr} (hq : a.heap.size ≤ q.block) (v : Value) : Since p a (b.setCell q v) :=
  h.trans (Upon.setCell (S := fun g => g = q.block) q v rfl) fun i hi e => by omega
theorem Since.more {p : Nat} {a b c : World} (h : Since p a b) (k : Since p b c) : Since p a c := h.trans k fun _ _ h => h

theorem ins_lost (s : Rd) (h : 38 ≤ (rdNum 1 s).1) : rdIns s = ((0, 0, 0), ((rdNum 1 s).2.1, true)) := if_pos h
theorem ins_read (s : Rd) (h : ¬ 38 ≤ (rdNum 1 s).1) {o : Int} {s1 : Rd} (h1 : rdNum 1 s = (o, s1)) : rdIns s = ((o, (rdNum (aW o) s1).1, (rdNum (bW o) (rdNum (aW o) s1).2).1), (rdNum (bW o) (rdNum (aW o) s1).2).2) := by
  unfold rdIns
  rw [if_neg h, h1]

set_option maxHeartbeats 4000000 in
theorem instruction_any {B0 : Nat} {w : World} {p : Nat} {s : Rd} (h : RdAt B0 w p s) (T : WTab w) (hT : 0 < B0 ∧ 1 < B0) :
    Calls Tryd.prog 49 #[.pointer (some ⟨p, 0, none⟩)] w (NumPost B0 w p (.agg #[.int .i64 (rdIns s).1.1, .int .i64 (rdIns s).1.2.1, .int .i64 (rdIns s).1.2.2]) (rdIns s).2) := by
  have hlow := h.low
  have hplt := h.lt
  obtain ⟨W0, hW0⟩ : ∃ W0, (w.alloc (.cells #[.int .i64 0, .int .i64 0, .int .i64 0] 47)).alloc (.cells #[.int .i64 0, .int .i64 0, .int .i64 0] 47) = W0 := ⟨_, rfl⟩
  have hb0 : Below w.heap.size w W0 := by rw [← hW0]; exact down_alloc (down_alloc (Below.refl _ _) _) _
  have ra : rowAt W0 w.heap.size 47 [.int .i64 0, .int .i64 0, .int .i64 0] := by rw [← hW0]; exact (rowAt.made _ _ _).alloc _
  have rb : rowAt W0 (w.heap.size + 1) 47 [.int .i64 0, .int .i64 0, .int .i64 0] := by rw [← hW0]; exact rowAt.made_at _ _ (by simp)
  have hs0 : Since p w W0 := Upon.of_below hb0
  have h0 := h.below hb0
  have T0 : WTab W0 := T.upon hs0 ⟨by omega, by omega⟩
  have HS0 := Lib.hid hs0
  have ne0 : p ≠ w.heap.size := by omega
  have ne1 : p ≠ w.heap.size + 1 := by omega
  have hbd := h.bd
  clear hs0 hb0 h T
  go_enter Tryd.func49, Tryd.ntmps49
  go_wp2_with fail
  refine (rnum_any h0 1 (by unfold maxLen; omega)).mono ?_
  rintro e w1 ⟨rfl, hr, hu⟩
  have hb := rdNum1_bd hbd
  have rb1 := rb.upon hu ne1.symm
  have ra1 := ra.upon hu ne0.symm
  have T1 := T0.upon hu ⟨by omega, by omega⟩
  have S1 := Lib.hid (HS0.out.more hu)
  have c10 : w1.cell? ⟨w.heap.size + 1, 0, none⟩ = some (.int .i64 0) := (rb1.cell 0).trans rfl
  have f10 : w1.frozen? ⟨w.heap.size + 1, 0, none⟩ = false := rb1.free 0
  obtain ⟨⟨o, s1⟩, ho⟩ : ∃ x, rdNum 1 s = x := ⟨_, rfl⟩
  have EL := Lib.hid (show 38 ≤ o → rdIns s = ((0, 0, 0), (s1.1, true)) from fun h => by have := ins_lost s (by rw [ho]; exact h); rwa [ho] at this)
  have ER := Lib.hid (show ¬ 38 ≤ o → rdIns s = ((o, (rdNum (aW o) s1).1, (rdNum (bW o) (rdNum (aW o) s1).2).1), (rdNum (bW o) (rdNum (aW o) s1).2).2) from fun h => ins_read s (by rw [ho]; exact h) ho)
  rw [ho] at hr hb
  rw [ho]
  simp only at hr hb ⊢
  have HO := Lib.hid ho
  obtain ⟨W1, hW1⟩ : ∃ W1, w1.setCell ⟨w.heap.size + 1, 0, none⟩ (.int .i64 o) = W1 := ⟨_, rfl⟩
  have rb2 : rowAt W1 (w.heap.size + 1) 47 [.int .i64 o, .int .i64 0, .int .i64 0] := by rw [← hW1]; exact rb1.set 0 _
  have ra2 : rowAt W1 w.heap.size 47 [.int .i64 0, .int .i64 0, .int .i64 0] := by rw [← hW1]; exact ra1.other _ _ (by simp)
  have S2 := Lib.hid (show Since p w W1 by rw [← hW1]; exact S1.out.set (by simp) _)
  have R2 := Lib.hid (show RdAt B0 W1 p s1 by rw [← hW1]; exact hr.set _ ne1.symm (by omega))
  have T2 : WTab W1 := by rw [← hW1]; exact T1.upon (S := fun g => g = w.heap.size + 1) (Upon.setCell _ _ rfl) ⟨by omega, by omega⟩
  have d0 : W1.cell? ⟨w.heap.size + 1, 0, none⟩ = some (.int .i64 o) := (rb2.cell 0).trans rfl
  have d1 : W1.cell? ⟨w.heap.size + 1, 1, none⟩ = some (.int .i64 0) := (rb2.cell 1).trans rfl
  have f1 : W1.frozen? ⟨w.heap.size + 1, 1, none⟩ = false := rb2.free 1
  clear hr hu rb1 ra1 T1 S1 HS0 h0 ra rb T0 hW0 hbd ho
  by_cases hl : 38 ≤ o
  · obtain ⟨x1, x2⟩ := R2.out.cells
    have y0 : W1.cell? ⟨w.heap.size, 0, none⟩ = some (.int .i64 0) := (ra2.cell 0).trans rfl
    have y1 : W1.cell? ⟨w.heap.size, 1, none⟩ = some (.int .i64 0) := (ra2.cell 1).trans rfl
    have y2 : W1.cell? ⟨w.heap.size, 2, none⟩ = some (.int .i64 0) := (ra2.cell 2).trans rfl
    have z0 : W1.frozen? ⟨w.heap.size, 0, none⟩ = false := ra2.free 0
    have z1 : W1.frozen? ⟨w.heap.size, 1, none⟩ = false := ra2.free 1
    have z2 : W1.frozen? ⟨w.heap.size, 2, none⟩ = false := ra2.free 2
    have EE := Lib.hid (EL.out hl)
    clear EL ER
    go_wp2_with fail
    refine bodyPost_ret (v := .agg #[.int .i64 0, .int .i64 0, .int .i64 0]) (by simp [results, Tryd.results49, go_sem, y0, y1, y2, ne0, ne0.symm]) rfl ⟨by rw [EE.out], ?_, ?_⟩
    · rw [EE.out]
      exact ((R2.out.lose.set _ ne0.symm (by omega)).set _ ne0.symm (by omega)).set _ ne0.symm (by omega)
    · exact (((S2.out.more (Upon.setCell (S := fun g => g = p) ⟨p, 1, none⟩ (.bool true) rfl)).set (Nat.le_refl _) _).set (Nat.le_refl _) _).set (Nat.le_refl _) _
  · obtain ⟨k, rfl⟩ := Int.eq_ofNat_of_zero_le hb.1
    have hk : k < 38 := by omega
    have hkI : (k : Int) < 38 := by omega
    have EE := Lib.hid (ER.out hl)
    have tA := T2.a k hk
    have tB := T2.b k hk
    have lA := aW_le (k : Int)
    have lB := bW_le (k : Int)
    obtain ⟨A, hA⟩ : ∃ A, aW (k : Int) = A := ⟨_, rfl⟩
    obtain ⟨B, hB⟩ : ∃ B, bW (k : Int) = B := ⟨_, rfl⟩
    have EE2 := EE.out
    rw [hA, hB] at EE2
    have EI := Lib.hid EE2
    rw [hA] at tA lA
    rw [hB] at tB lB
    have wA : IntKind.i64.wrap (A : Int) = A := IntWalk.i64_in _ (by omega)
    have wB : IntKind.i64.wrap (B : Int) = B := IntWalk.i64_in _ (by omega)
    have hl' : (k : Int) < 38 := hkI
    have HB := Lib.hid hB
    clear EL ER EE EE2 hA hB hl HO hb
    go_wp2_with fail
    refine (rnum_any R2.out A (by unfold maxLen; omega)).mono ?_
    rintro e w2 ⟨rfl, hr, hu⟩
    obtain ⟨⟨a, s2⟩, ha⟩ : ∃ x, rdNum A s1 = x := ⟨_, rfl⟩
    have EI2 := EI.out
    rw [ha] at hr EI2
    rw [ha]
    simp only at hr EI2 ⊢
    have EJ := Lib.hid EI2
    have rb3 := rb2.upon hu ne1.symm
    have ra3 := ra2.upon hu ne0.symm
    have T3 := T2.upon hu ⟨by omega, by omega⟩
    have tB3 := T3.b k hk
    have S3 := Lib.hid (S2.out.more hu)
    have g0 : w2.cell? ⟨w.heap.size + 1, 0, none⟩ = some (.int .i64 k) := (rb3.cell 0).trans rfl
    have g1 : w2.cell? ⟨w.heap.size + 1, 1, none⟩ = some (.int .i64 0) := (rb3.cell 1).trans rfl
    have gf1 : w2.frozen? ⟨w.heap.size + 1, 1, none⟩ = false := rb3.free 1
    obtain ⟨W2, hW2⟩ : ∃ W2, w2.setCell ⟨w.heap.size + 1, 1, none⟩ (.int .i64 a) = W2 := ⟨_, rfl⟩
    have rb4 : rowAt W2 (w.heap.size + 1) 47 [.int .i64 k, .int .i64 a, .int .i64 0] := by rw [← hW2]; exact rb3.set 1 _
    have ra4 : rowAt W2 w.heap.size 47 [.int .i64 0, .int .i64 0, .int .i64 0] := by rw [← hW2]; exact ra3.other _ _ (by simp)
    have S4 := Lib.hid (show Since p w W2 by rw [← hW2]; exact S3.out.set (by simp) _)
    have R4 := Lib.hid (show RdAt B0 W2 p s2 by rw [← hW2]; exact hr.set _ ne1.symm (by omega))
    have j0 : W2.cell? ⟨w.heap.size + 1, 0, none⟩ = some (.int .i64 k) := (rb4.cell 0).trans rfl
    have T4 : WTab W2 := T3.upon (S := fun g => g = w.heap.size + 1) (by rw [← hW2]; exact Upon.setCell _ _ rfl) ⟨by omega, by omega⟩
    have tB4 := T4.b k hk
    rw [HB.out] at tB3 tB4
    clear hr hu rb2 ra2 T2 S2 R2 d0 d1 f1 tA tB EI EI2 rb3 ra3 T3 S3 ha hW1 c10 f10
    go_wp2_with fail
    clear hW2 g0 g1 gf1
    refine (rnum_any R4.out B (by unfold maxLen; omega)).mono ?_
    rintro e w3 ⟨rfl, hr, hu⟩
    obtain ⟨⟨b, s3⟩, ha⟩ : ∃ x, rdNum B s2 = x := ⟨_, rfl⟩
    have EJ2 := EJ.out
    rw [ha] at hr EJ2
    rw [ha]
    simp only at hr EJ2 ⊢
    have EK := Lib.hid EJ2
    have rb5 := rb4.upon hu ne1.symm
    have ra5 := ra4.upon hu ne0.symm
    have S5 := Lib.hid (S4.out.more hu)
    have q0 : w3.cell? ⟨w.heap.size + 1, 0, none⟩ = some (.int .i64 k) := (rb5.cell 0).trans rfl
    have q1 : w3.cell? ⟨w.heap.size + 1, 1, none⟩ = some (.int .i64 a) := (rb5.cell 1).trans rfl
    have q2 : w3.cell? ⟨w.heap.size + 1, 2, none⟩ = some (.int .i64 0) := (rb5.cell 2).trans rfl
    have qf2 : w3.frozen? ⟨w.heap.size + 1, 2, none⟩ = false := rb5.free 2
    obtain ⟨W3, hW3⟩ : ∃ W3, w3.setCell ⟨w.heap.size + 1, 2, none⟩ (.int .i64 b) = W3 := ⟨_, rfl⟩
    have rb6 : rowAt W3 (w.heap.size + 1) 47 [.int .i64 k, .int .i64 a, .int .i64 b] := by rw [← hW3]; exact rb5.set 2 _
    have ra6 : rowAt W3 w.heap.size 47 [.int .i64 0, .int .i64 0, .int .i64 0] := by rw [← hW3]; exact ra5.other _ _ (by simp)
    have S6 := Lib.hid (show Since p w W3 by rw [← hW3]; exact S5.out.set (by simp) _)
    have R6 := Lib.hid (show RdAt B0 W3 p s3 by rw [← hW3]; exact hr.set _ ne1.symm (by omega))
    have u0 : W3.cell? ⟨w.heap.size + 1, 0, none⟩ = some (.int .i64 k) := (rb6.cell 0).trans rfl
    have u1 : W3.cell? ⟨w.heap.size + 1, 1, none⟩ = some (.int .i64 a) := (rb6.cell 1).trans rfl
    have u2 : W3.cell? ⟨w.heap.size + 1, 2, none⟩ = some (.int .i64 b) := (rb6.cell 2).trans rfl
    have y0 : W3.cell? ⟨w.heap.size, 0, none⟩ = some (.int .i64 0) := (ra6.cell 0).trans rfl
    have y1 : W3.cell? ⟨w.heap.size, 1, none⟩ = some (.int .i64 0) := (ra6.cell 1).trans rfl
    have y2 : W3.cell? ⟨w.heap.size, 2, none⟩ = some (.int .i64 0) := (ra6.cell 2).trans rfl
    have z0 : W3.frozen? ⟨w.heap.size, 0, none⟩ = false := ra6.free 0
    have z1 : W3.frozen? ⟨w.heap.size, 1, none⟩ = false := ra6.free 1
    have z2 : W3.frozen? ⟨w.heap.size, 2, none⟩ = false := ra6.free 2
    clear hr hu rb4 ra4 T4 S4 R4 j0 tB3 tB4 EJ EJ2 rb5 ra5 S5 ha
    go_wp2_with fail
    refine bodyPost_ret (v := .agg #[.int .i64 k, .int .i64 a, .int .i64 b]) (by simp [results, Tryd.results49, go_sem, y0, y1, y2]) rfl ⟨by rw [EK.out], ?_, ?_⟩
    · rw [EK.out]
      exact ((R6.out.set _ ne0.symm (by omega)).set _ ne0.symm (by omega)).set _ ne0.symm (by omega)
    · exact (((S6.out).set (Nat.le_refl _) _).set (Nat.le_refl _) _).set (Nat.le_refl _) _
end Go.Proofs.YtabdbciebhmflaaDoor
