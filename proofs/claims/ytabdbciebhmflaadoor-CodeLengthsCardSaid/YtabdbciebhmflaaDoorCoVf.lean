/-
  Package code: the reader's form.
  Conditions: as each states.
-/
import Derived.Test.YtabdbciebhmflaaDoorCoV
namespace Go.Proofs.YtabdbciebhmflaaDoor
open Go.ChangeShapes Go.WideShapes Go.ChangeAt Go.RowKit
set_option linter.unusedVariables false
set_option linter.unusedSimpArgs false
set_option maxRecDepth 100000

def FmPost (B0 : Nat) (w : World) (p : Nat) (m : PFm) (s : Rd) (e : Ending) (w' : World) : Prop :=
  ∃ sv, e = .returned (.agg #[.int .i64 m.1, .int .i64 m.2.1, .int .i64 m.2.2.1, sv]) ∧ w'.ownsRow w.heap.size 3 1 sv m.2.2.2.length (intL m.2.2.2) ∧ RdAt B0 w' p s ∧ Since p w w'
theorem rdFm_eq (s : Rd) {o a b n : Int} {s1 s2 s3 s4 : Rd} (h1 : rdNum 1 s = (o, s1)) (h2 : rdNum 1 s1 = (a, s2)) (h3 : rdNum 1 s2 = (b, s3)) (h4 : rdCnt 1 20 s3 = (n, s4)) : rdFm s = ((o, a, b, (rdList rdCon n.toNat s4).1), (rdList rdCon n.toNat s4).2) := by
  simp only [rdFm, h1, h2, h3, h4]

set_option maxHeartbeats 4000000 in
theorem rform_any {B0 : Nat} {w : World} {p : Nat} {s : Rd} (h : RdAt B0 w p s) :
    Calls Tryd.prog 44 #[.pointer (some ⟨p, 0, none⟩)] w (FmPost B0 w p (rdFm s).1 (rdFm s).2) := by
  have hlow := h.low
  have hplt := h.lt
  obtain ⟨V0, hV0⟩ : ∃ W0, (w.alloc (.cells #[.int .i64 0, .int .i64 0, .int .i64 0, .slice none 0 0] 50)).alloc (.cells #[.int .i64 0, .int .i64 0, .int .i64 0, .slice none 0 0] 50) = W0 := ⟨_, rfl⟩
  have hb0 : Below w.heap.size w V0 := by rw [← hV0]; exact down_alloc (down_alloc (Below.refl _ _) _) _
  have ra0 : rowAt V0 w.heap.size 50 [.int .i64 0, .int .i64 0, .int .i64 0, .slice none 0 0] := by rw [← hV0]; exact (rowAt.made _ _ _).alloc _
  have rb0 : rowAt V0 (w.heap.size + 1) 50 [.int .i64 0, .int .i64 0, .int .i64 0, .slice none 0 0] := by rw [← hV0]; exact rowAt.made_at _ _ (by simp)
  have S0 := Lib.hid (show Since p w V0 from Upon.of_below hb0)
  have R0 := Lib.hid (h.below hb0)
  have ne0 : p ≠ w.heap.size := by omega
  have ne1 : p ≠ w.heap.size + 1 := by omega
  have hbd0 := Lib.hid h.bd
  have hmf : ∀ (fn : Fn) (first cap : Array Value) (w : World), (Instr.makeFunc fn first cap).run Tryd.prog w = .ok (.func fn first cap) w := fun _ _ _ _ => rfl
  clear hb0 h
  go_enter Tryd.func44, Tryd.ntmps44
  go_wp2_with fail
  clear hV0
  refine (rnum_any R0.out 1 (by unfold maxLen; omega)).mono ?_
  rintro e w0 ⟨rfl, hr, hu⟩
  have rb := rb0.upon hu ne1.symm
  have ra := ra0.upon hu ne0.symm
  have SS := Lib.hid (S0.out.more hu)
  have fz : w0.frozen? ⟨w.heap.size + 1, 0, none⟩ = false := rb.free 0
  have cz : w0.cell? ⟨w.heap.size + 1, 0, none⟩ = some (.int .i64 0) := (rb.cell 0).trans rfl
  have hbd1 := Lib.hid (rdNum_bd hbd0.out 1)
  obtain ⟨⟨o, s1⟩, ho⟩ : ∃ x, rdNum 1 s = x := ⟨_, rfl⟩
  have Ho := Lib.hid ho
  rw [ho] at hr hbd1
  rw [ho]
  simp only at hr hbd1 ⊢
  obtain ⟨V1, hV⟩ : ∃ W, w0.setCell ⟨w.heap.size + 1, 0, none⟩ (.int .i64 o) = W := ⟨_, rfl⟩
  have rb1 : rowAt V1 (w.heap.size + 1) 50 [.int .i64 o, .int .i64 0, .int .i64 0, .slice none 0 0] := by rw [← hV]; exact rb.set 0 _
  have ra1 : rowAt V1 w.heap.size 50 [.int .i64 0, .int .i64 0, .int .i64 0, .slice none 0 0] := by rw [← hV]; exact ra.other _ _ (by simp)
  have S1 := Lib.hid (show Since p w V1 by rw [← hV]; exact SS.out.set (by simp) _)
  have R1 := Lib.hid (show RdAt B0 V1 p s1 by rw [← hV]; exact hr.set _ ne1.symm (by omega))
  clear hr hu rb0 ra0 S0 R0 rb ra SS ho
  go_wp2_with fail
  clear cz fz hV
  refine (rnum_any R1.out 1 (by unfold maxLen; omega)).mono ?_
  rintro e w1 ⟨rfl, hr, hu⟩
  have rb := rb1.upon hu ne1.symm
  have ra := ra1.upon hu ne0.symm
  have SS := Lib.hid (S1.out.more hu)
  have fz : w1.frozen? ⟨w.heap.size + 1, 1, none⟩ = false := rb.free 1
  have cz : w1.cell? ⟨w.heap.size + 1, 1, none⟩ = some (.int .i64 0) := (rb.cell 1).trans rfl
  have hbd2 := Lib.hid (rdNum_bd hbd1.out 1)
  obtain ⟨⟨a, s2⟩, ha⟩ : ∃ x, rdNum 1 s1 = x := ⟨_, rfl⟩
  have Ha := Lib.hid ha
  rw [ha] at hr hbd2
  rw [ha]
  simp only at hr hbd2 ⊢
  obtain ⟨V2, hV⟩ : ∃ W, w1.setCell ⟨w.heap.size + 1, 1, none⟩ (.int .i64 a) = W := ⟨_, rfl⟩
  have rb2 : rowAt V2 (w.heap.size + 1) 50 [.int .i64 o, .int .i64 a, .int .i64 0, .slice none 0 0] := by rw [← hV]; exact rb.set 1 _
  have ra2 : rowAt V2 w.heap.size 50 [.int .i64 0, .int .i64 0, .int .i64 0, .slice none 0 0] := by rw [← hV]; exact ra.other _ _ (by simp)
  have S2 := Lib.hid (show Since p w V2 by rw [← hV]; exact SS.out.set (by simp) _)
  have R2 := Lib.hid (show RdAt B0 V2 p s2 by rw [← hV]; exact hr.set _ ne1.symm (by omega))
  clear hr hu rb1 ra1 S1 R1 rb ra SS ha
  go_wp2_with fail
  clear cz fz hV
  refine (rnum_any R2.out 1 (by unfold maxLen; omega)).mono ?_
  rintro e w2 ⟨rfl, hr, hu⟩
  have rb := rb2.upon hu ne1.symm
  have ra := ra2.upon hu ne0.symm
  have SS := Lib.hid (S2.out.more hu)
  have fz : w2.frozen? ⟨w.heap.size + 1, 2, none⟩ = false := rb.free 2
  have cz : w2.cell? ⟨w.heap.size + 1, 2, none⟩ = some (.int .i64 0) := (rb.cell 2).trans rfl
  have hbd3 := Lib.hid (rdNum_bd hbd2.out 1)
  obtain ⟨⟨b, s3⟩, hb⟩ : ∃ x, rdNum 1 s2 = x := ⟨_, rfl⟩
  have Hb := Lib.hid hb
  rw [hb] at hr hbd3
  rw [hb]
  simp only at hr hbd3 ⊢
  obtain ⟨V3, hV⟩ : ∃ W, w2.setCell ⟨w.heap.size + 1, 2, none⟩ (.int .i64 b) = W := ⟨_, rfl⟩
  have rb3 : rowAt V3 (w.heap.size + 1) 50 [.int .i64 o, .int .i64 a, .int .i64 b, .slice none 0 0] := by rw [← hV]; exact rb.set 2 _
  have ra3 : rowAt V3 w.heap.size 50 [.int .i64 0, .int .i64 0, .int .i64 0, .slice none 0 0] := by rw [← hV]; exact ra.other _ _ (by simp)
  have S3 := Lib.hid (show Since p w V3 by rw [← hV]; exact SS.out.set (by simp) _)
  have R3 := Lib.hid (show RdAt B0 V3 p s3 by rw [← hV]; exact hr.set _ ne1.symm (by omega))
  clear hr hu rb2 ra2 S2 R2 rb ra SS hb
  go_wp2_with fail
  clear cz fz hV
  refine (count_any R3.out 1 (by unfold maxLen; omega) 20).mono ?_
  rintro e w3 ⟨rfl, hr, hu⟩
  have hn := rdCnt_bd (k := 1) (m := 20) (rdNum1_bd hbd3.out).1 (by omega)
  obtain ⟨⟨n, s4⟩, hc⟩ : ∃ x, rdCnt 1 20 s3 = x := ⟨_, rfl⟩
  rw [hc] at hr hn
  rw [hc]
  simp only at hr hn ⊢
  obtain ⟨N, rfl⟩ := Int.eq_ofNat_of_zero_le hn.1
  have EF := Lib.hid (rdFm_eq s Ho.out Ha.out Hb.out hc)
  have rb5 := rb3.upon hu ne1.symm
  have ra5 := ra3.upon hu ne0.symm
  have S5 := Lib.hid (S3.out.more hu)
  have R5 := Lib.hid hr
  have hN : N ≤ 20 := by omega
  clear hr hu rb3 ra3 S3 R3 hn hc Ho Ha Hb
  go_wp2_with fail
  refine (ints_any R5.out N (by omega)).mono ?_
  rintro e w4 ⟨sv, rfl, hown, hr, hu⟩
  have rb6 := rb5.upon hu ne1.symm
  have ra6 := ra5.upon hu ne0.symm
  have S6 := Lib.hid (S5.out.more hu)
  have R6 := Lib.hid hr
  have EG := EF.out
  rw [Int.toNat_natCast] at EG
  generalize rdList rdCon N s4 = R at *
  obtain ⟨l, s5⟩ := R
  obtain ⟨sa, sc, rfl⟩ := owns_slice hown
  simp only at EG hr
  have EI := Lib.hid EG
  have f12 : w4.frozen? ⟨w.heap.size + 1, 3, none⟩ = false := rb6.free 3
  have c12 : w4.cell? ⟨w.heap.size + 1, 3, none⟩ = some (.slice none 0 0) := (rb6.cell 3).trans rfl
  have z5 : w.heap.size + 1 < w3.heap.size := rb5.lt
  obtain ⟨W4, hW4⟩ : ∃ W4, w4.setCell ⟨w.heap.size + 1, 3, none⟩ (.slice sa l.length sc) = W4 := ⟨_, rfl⟩
  have rb7 : rowAt W4 (w.heap.size + 1) 50 [.int .i64 o, .int .i64 a, .int .i64 b, .slice sa l.length sc] := by rw [← hW4]; exact rb6.set 3 _
  have ra7 : rowAt W4 w.heap.size 50 [.int .i64 0, .int .i64 0, .int .i64 0, .slice none 0 0] := by rw [← hW4]; exact ra6.other _ _ (by simp)
  have S7 := Lib.hid (show Since p w W4 by rw [← hW4]; exact S6.out.set (by simp) _)
  have R7 := Lib.hid (show RdAt B0 W4 p s5 by rw [← hW4]; exact R6.out.set _ ne1.symm (by omega))
  have ob := Lib.hid (own_ge hown)
  have O7 := Lib.hid (show W4.ownsRow w.heap.size 3 1 (.slice sa l.length sc) l.length (intL l) by
    rw [← hW4]
    exact owns_base (owns_upon (S := fun g => g = w.heap.size + 1) hown (Upon.setCell _ _ rfl) fun g hg e => by have := ob.out g hg; omega) fun g hg => by have := ob.out g hg; omega)
  have u0 : W4.cell? ⟨w.heap.size + 1, 0, none⟩ = some (.int .i64 o) := (rb7.cell 0).trans rfl
  have u1 : W4.cell? ⟨w.heap.size + 1, 1, none⟩ = some (.int .i64 a) := (rb7.cell 1).trans rfl
  have u2 : W4.cell? ⟨w.heap.size + 1, 2, none⟩ = some (.int .i64 b) := (rb7.cell 2).trans rfl
  have u3 : W4.cell? ⟨w.heap.size + 1, 3, none⟩ = some (.slice sa l.length sc) := (rb7.cell 3).trans rfl
  have y0 : W4.cell? ⟨w.heap.size, 0, none⟩ = some (.int .i64 0) := (ra7.cell 0).trans rfl
  have y1 : W4.cell? ⟨w.heap.size, 1, none⟩ = some (.int .i64 0) := (ra7.cell 1).trans rfl
  have y2 : W4.cell? ⟨w.heap.size, 2, none⟩ = some (.int .i64 0) := (ra7.cell 2).trans rfl
  have y3 : W4.cell? ⟨w.heap.size, 3, none⟩ = some (.slice none 0 0) := (ra7.cell 3).trans rfl
  have z0 : W4.frozen? ⟨w.heap.size, 0, none⟩ = false := ra7.free 0
  have z1 : W4.frozen? ⟨w.heap.size, 1, none⟩ = false := ra7.free 1
  have z2 : W4.frozen? ⟨w.heap.size, 2, none⟩ = false := ra7.free 2
  have z3 : W4.frozen? ⟨w.heap.size, 3, none⟩ = false := ra7.free 3
  clear hown hr hu rb5 ra5 S5 R5 EF EG rb6 ra6 S6 R6
  go_wp2_with fail
  refine bodyPost_ret (v := .agg #[.int .i64 o, .int .i64 a, .int .i64 b, .slice sa l.length sc]) (by simp [results, Tryd.results44, go_sem, y0, y1, y2, y3]) rfl ⟨_, by rw [EI.out], ?_, ?_, ?_⟩
  · rw [EI.out]
    have x : ∀ {W : World} {v : Value} (o' : Nat), W.ownsRow w.heap.size 3 1 (.slice sa l.length sc) l.length (intL l) → (W.setCell ⟨w.heap.size, o', none⟩ v).ownsRow w.heap.size 3 1 (.slice sa l.length sc) l.length (intL l) := fun o' h =>
      owns_upon (S := fun g => g = w.heap.size) h (Upon.setCell _ _ rfl) fun g hg e => by have := ob.out g hg; omega
    exact x _ (x _ (x _ (x _ O7.out)))
  · rw [EI.out]
    exact (((R7.out.set _ ne0.symm (by omega)).set _ ne0.symm (by omega)).set _ ne0.symm (by omega)).set _ ne0.symm (by omega)
  · exact ((((S7.out).set (Nat.le_refl _) _).set (Nat.le_refl _) _).set (Nat.le_refl _) _).set (Nat.le_refl _) _
end Go.Proofs.YtabdbciebhmflaaDoor
