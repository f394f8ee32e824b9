/-
  Package code: the reader's function.
  Conditions: as each states.
-/
import Derived.Test.YtabdbciebhmflaaDoorCoU
namespace Go.Proofs.YtabdbciebhmflaaDoor
open Go.ChangeShapes Go.WideShapes Go.ChangeAt Go.RowKit
set_option linter.unusedVariables false
set_option linter.unusedSimpArgs false
set_option maxRecDepth 100000

def FnPost (B0 : Nat) (w : World) (p : Nat) (f : PFn) (s : Rd) (e : Ending) (w' : World) : Prop :=
  ∃ sv, e = .returned (.agg #[.int .i64 f.1, .int .i64 f.2.1, sv]) ∧ w'.ownsRow w.heap.size 47 3 sv f.2.2.length (insL f.2.2) ∧ RdAt B0 w' p s ∧ Since p w w'
theorem rdCnt_bd {k : Nat} {m : Int} {s : Rd} (h : 0 ≤ (rdNum k s).1) (hm : 0 ≤ m) : 0 ≤ (rdCnt k m s).1 ∧ (rdCnt k m s).1 ≤ m := by
  unfold rdCnt
  split
  · exact ⟨Int.le_refl _, hm⟩
  · exact ⟨h, by omega⟩
theorem rdCnt_rd {k : Nat} {m : Int} {s : Rd} (h : ∀ z ∈ s.1, 0 ≤ z ∧ z < 256) : ∀ z ∈ (rdCnt k m s).2.1, 0 ≤ z ∧ z < 256 := by
  unfold rdCnt
  split
  · exact rdNum_bd h k
  · exact rdNum_bd h k
theorem rdFn_eq (s : Rd) {a b n : Int} {s1 s2 s3 : Rd} (h1 : rdNum 1 s = (a, s1)) (h2 : rdNum 1 s1 = (b, s2)) (h3 : rdCnt 2 600 s2 = (n, s3)) : rdFn s = ((a, b, (rdList rdIns n.toNat s3).1), (rdList rdIns n.toNat s3).2) := by
  simp only [rdFn, h1, h2, h3]

set_option maxHeartbeats 4000000 in
theorem rfunc_any {B0 : Nat} {w : World} {p : Nat} {s : Rd} (h : RdAt B0 w p s) (T : WTab w) (hT : 0 < B0 ∧ 1 < B0) :
    Calls Tryd.prog 40 #[.pointer (some ⟨p, 0, none⟩)] w (FnPost B0 w p (rdFn s).1 (rdFn s).2) := by
  have hlow := h.low
  have hplt := h.lt
  obtain ⟨W0, hW0⟩ : ∃ W0, (w.alloc (.cells #[.int .i64 0, .int .i64 0, .slice none 0 0] 45)).alloc (.cells #[.int .i64 0, .int .i64 0, .slice none 0 0] 45) = W0 := ⟨_, rfl⟩
  have hb0 : Below w.heap.size w W0 := by rw [← hW0]; exact down_alloc (down_alloc (Below.refl _ _) _) _
  have ra : rowAt W0 w.heap.size 45 [.int .i64 0, .int .i64 0, .slice none 0 0] := by rw [← hW0]; exact (rowAt.made _ _ _).alloc _
  have rb : rowAt W0 (w.heap.size + 1) 45 [.int .i64 0, .int .i64 0, .slice none 0 0] := by rw [← hW0]; exact rowAt.made_at _ _ (by simp)
  have hs0 : Since p w W0 := Upon.of_below hb0
  have h0 := h.below hb0
  have T0 : WTab W0 := T.upon hs0 ⟨by omega, by omega⟩
  have HS0 := Lib.hid hs0
  have ne0 : p ≠ w.heap.size := by omega
  have ne1 : p ≠ w.heap.size + 1 := by omega
  have hbd := Lib.hid h.bd
  have hmf : ∀ (fn : Fn) (first cap : Array Value) (w : World), (Instr.makeFunc fn first cap).run Tryd.prog w = .ok (.func fn first cap) w := fun _ _ _ _ => rfl
  clear hs0 hb0 h T
  go_enter Tryd.func40, Tryd.ntmps40
  go_wp2_with fail
  refine (rnum_any h0 1 (by unfold maxLen; omega)).mono ?_
  rintro e w1 ⟨rfl, hr, hu⟩
  have rb1 := rb.upon hu ne1.symm
  have ra1 := ra.upon hu ne0.symm
  have T1 := T0.upon hu ⟨by omega, by omega⟩
  have S1 := Lib.hid (HS0.out.more hu)
  have f10 : w1.frozen? ⟨w.heap.size + 1, 0, none⟩ = false := rb1.free 0
  have c10 : w1.cell? ⟨w.heap.size + 1, 0, none⟩ = some (.int .i64 0) := (rb1.cell 0).trans rfl
  have hbd1 := Lib.hid (rdNum_bd hbd.out 1)
  obtain ⟨⟨o, s1⟩, ho⟩ : ∃ x, rdNum 1 s = x := ⟨_, rfl⟩
  have HO := Lib.hid ho
  rw [ho] at hr hbd1
  rw [ho]
  simp only at hr hbd1 ⊢
  obtain ⟨W1, hW1⟩ : ∃ W1, w1.setCell ⟨w.heap.size + 1, 0, none⟩ (.int .i64 o) = W1 := ⟨_, rfl⟩
  have rb2 : rowAt W1 (w.heap.size + 1) 45 [.int .i64 o, .int .i64 0, .slice none 0 0] := by rw [← hW1]; exact rb1.set 0 _
  have ra2 : rowAt W1 w.heap.size 45 [.int .i64 0, .int .i64 0, .slice none 0 0] := by rw [← hW1]; exact ra1.other _ _ (by simp)
  have S2 := Lib.hid (show Since p w W1 by rw [← hW1]; exact S1.out.set (by simp) _)
  have R2 := Lib.hid (show RdAt B0 W1 p s1 by rw [← hW1]; exact hr.set _ ne1.symm (by omega))
  have T2 : WTab W1 := by rw [← hW1]; exact T1.upon (S := fun g => g = w.heap.size + 1) (Upon.setCell _ _ rfl) ⟨by omega, by omega⟩
  clear hr hu rb1 ra1 T1 S1 HS0 h0 ra rb T0 hW0 ho
  go_wp2_with fail
  clear c10 f10 hW1
  refine (rnum_any R2.out 1 (by unfold maxLen; omega)).mono ?_
  rintro e w2 ⟨rfl, hr, hu⟩
  have rb3 := rb2.upon hu ne1.symm
  have ra3 := ra2.upon hu ne0.symm
  have T3 := T2.upon hu ⟨by omega, by omega⟩
  have S3 := Lib.hid (S2.out.more hu)
  have f11 : w2.frozen? ⟨w.heap.size + 1, 1, none⟩ = false := rb3.free 1
  have c11 : w2.cell? ⟨w.heap.size + 1, 1, none⟩ = some (.int .i64 0) := (rb3.cell 1).trans rfl
  have hbd2 := Lib.hid (rdNum_bd hbd1.out 1)
  obtain ⟨⟨a, s2⟩, ha⟩ : ∃ x, rdNum 1 s1 = x := ⟨_, rfl⟩
  have HA := Lib.hid ha
  rw [ha] at hr hbd2
  rw [ha]
  simp only at hr hbd2 ⊢
  obtain ⟨W2, hW2⟩ : ∃ W2, w2.setCell ⟨w.heap.size + 1, 1, none⟩ (.int .i64 a) = W2 := ⟨_, rfl⟩
  have rb4 : rowAt W2 (w.heap.size + 1) 45 [.int .i64 o, .int .i64 a, .slice none 0 0] := by rw [← hW2]; exact rb3.set 1 _
  have ra4 : rowAt W2 w.heap.size 45 [.int .i64 0, .int .i64 0, .slice none 0 0] := by rw [← hW2]; exact ra3.other _ _ (by simp)
  have S4 := Lib.hid (show Since p w W2 by rw [← hW2]; exact S3.out.set (by simp) _)
  have R4 := Lib.hid (show RdAt B0 W2 p s2 by rw [← hW2]; exact hr.set _ ne1.symm (by omega))
  have T4 : WTab W2 := T3.upon (S := fun g => g = w.heap.size + 1) (by rw [← hW2]; exact Upon.setCell _ _ rfl) ⟨by omega, by omega⟩
  clear hr hu rb2 ra2 T2 S2 R2 rb3 ra3 T3 S3 ha
  go_wp2_with fail
  clear c11 f11 hW2
  refine (count_any R4.out 2 (by unfold maxLen; omega) 600).mono ?_
  rintro e w3 ⟨rfl, hr, hu⟩
  have hn := rdCnt_bd (k := 2) (m := 600) (rdNum2_bd hbd2.out).1 (by omega)
  obtain ⟨⟨n, s3⟩, hc⟩ : ∃ x, rdCnt 2 600 s2 = x := ⟨_, rfl⟩
  rw [hc] at hr hn
  rw [hc]
  simp only at hr hn ⊢
  obtain ⟨N, rfl⟩ := Int.eq_ofNat_of_zero_le hn.1
  have EF := Lib.hid (rdFn_eq s HO.out HA.out hc)
  have rb5 := rb4.upon hu ne1.symm
  have ra5 := ra4.upon hu ne0.symm
  have T5 := T4.upon hu ⟨by omega, by omega⟩
  have S5 := Lib.hid (S4.out.more hu)
  have R5 := Lib.hid hr
  have hN : N ≤ 600 := by omega
  clear hr hu rb4 ra4 T4 S4 R4 hn hc HO HA
  go_wp2_with fail
  refine (inss_any R5.out T5 hT N (by omega)).mono ?_
  rintro e w4 ⟨sv, rfl, hown, hr, hu⟩
  have rb6 := rb5.upon hu ne1.symm
  have ra6 := ra5.upon hu ne0.symm
  have S6 := Lib.hid (S5.out.more hu)
  have R6 := Lib.hid hr
  have EG := EF.out
  rw [Int.toNat_natCast] at EG
  generalize rdList rdIns N s3 = R at *
  obtain ⟨l, s4⟩ := R
  obtain ⟨sa, sc, rfl⟩ := owns_slice hown
  simp only at EG hr
  have EI := Lib.hid EG
  have f12 : w4.frozen? ⟨w.heap.size + 1, 2, none⟩ = false := rb6.free 2
  have c12 : w4.cell? ⟨w.heap.size + 1, 2, none⟩ = some (.slice none 0 0) := (rb6.cell 2).trans rfl
  have z5 : w.heap.size + 1 < w3.heap.size := rb5.lt
  obtain ⟨W4, hW4⟩ : ∃ W4, w4.setCell ⟨w.heap.size + 1, 2, none⟩ (.slice sa l.length sc) = W4 := ⟨_, rfl⟩
  have rb7 : rowAt W4 (w.heap.size + 1) 45 [.int .i64 o, .int .i64 a, .slice sa l.length sc] := by rw [← hW4]; exact rb6.set 2 _
  have ra7 : rowAt W4 w.heap.size 45 [.int .i64 0, .int .i64 0, .slice none 0 0] := by rw [← hW4]; exact ra6.other _ _ (by simp)
  have S7 := Lib.hid (show Since p w W4 by rw [← hW4]; exact S6.out.set (by simp) _)
  have R7 := Lib.hid (show RdAt B0 W4 p s4 by rw [← hW4]; exact R6.out.set _ ne1.symm (by omega))
  have ob := Lib.hid (own_ge hown)
  have O7 := Lib.hid (show W4.ownsRow w.heap.size 47 3 (.slice sa l.length sc) l.length (insL l) by
    rw [← hW4]
    exact owns_base (owns_upon (S := fun g => g = w.heap.size + 1) hown (Upon.setCell _ _ rfl) fun g hg e => by have := ob.out g hg; omega) fun g hg => by have := ob.out g hg; omega)
  have u0 : W4.cell? ⟨w.heap.size + 1, 0, none⟩ = some (.int .i64 o) := (rb7.cell 0).trans rfl
  have u1 : W4.cell? ⟨w.heap.size + 1, 1, none⟩ = some (.int .i64 a) := (rb7.cell 1).trans rfl
  have u2 : W4.cell? ⟨w.heap.size + 1, 2, none⟩ = some (.slice sa l.length sc) := (rb7.cell 2).trans rfl
  have y0 : W4.cell? ⟨w.heap.size, 0, none⟩ = some (.int .i64 0) := (ra7.cell 0).trans rfl
  have y1 : W4.cell? ⟨w.heap.size, 1, none⟩ = some (.int .i64 0) := (ra7.cell 1).trans rfl
  have y2 : W4.cell? ⟨w.heap.size, 2, none⟩ = some (.slice none 0 0) := (ra7.cell 2).trans rfl
  have z0 : W4.frozen? ⟨w.heap.size, 0, none⟩ = false := ra7.free 0
  have z1 : W4.frozen? ⟨w.heap.size, 1, none⟩ = false := ra7.free 1
  have z2 : W4.frozen? ⟨w.heap.size, 2, none⟩ = false := ra7.free 2
  clear hown hr hu rb5 ra5 T5 S5 R5 EF EG rb6 ra6 S6 R6
  go_wp2_with fail
  refine bodyPost_ret (v := .agg #[.int .i64 o, .int .i64 a, .slice sa l.length sc]) (by simp [results, Tryd.results40, go_sem, y0, y1, y2]) rfl ⟨_, by rw [EI.out], ?_, ?_, ?_⟩
  · rw [EI.out]
    have x : ∀ {W : World} {v : Value} (o' : Nat), W.ownsRow w.heap.size 47 3 (.slice sa l.length sc) l.length (insL l) → (W.setCell ⟨w.heap.size, o', none⟩ v).ownsRow w.heap.size 47 3 (.slice sa l.length sc) l.length (insL l) := fun o' h =>
      owns_upon (S := fun g => g = w.heap.size) h (Upon.setCell _ _ rfl) fun g hg e => by have := ob.out g hg; omega
    exact x _ (x _ (x _ O7.out))
  · rw [EI.out]
    exact ((R7.out.set _ ne0.symm (by omega)).set _ ne0.symm (by omega)).set _ ne0.symm (by omega)
  · exact (((S7.out).set (Nat.le_refl _) _).set (Nat.le_refl _) _).set (Nat.le_refl _) _
end Go.Proofs.YtabdbciebhmflaaDoor
