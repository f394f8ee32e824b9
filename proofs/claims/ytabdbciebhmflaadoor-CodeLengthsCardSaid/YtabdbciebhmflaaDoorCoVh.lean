/-
  Package code: the reader's program.
  Conditions: as each states.
-/
import Derived.Test.YtabdbciebhmflaaDoorCoVg
namespace Go.Proofs.YtabdbciebhmflaaDoor
open Go.ChangeShapes Go.WideShapes Go.ChangeAt Go.RowKit
set_option linter.unusedVariables false
set_option linter.unusedSimpArgs false
set_option maxRecDepth 100000

def RPrPost (B0 : Nat) (w : World) (p : Nat) (P : PPr) (s : Rd) (e : Ending) (w' : World) : Prop :=
  ∃ v1 v2 v3, e = .returned (.agg #[v1, v2, v3]) ∧ prAt (fun g => g < w.heap.size) w' v1 v2 v3 P ∧ RdAt B0 w' p s ∧ Since p w w'
theorem rdPr_eq (s : Rd) {a b c : Int} {s1 s2 s3 : Rd} (h1 : rdCnt 1 60 s = (a, s1)) (h2 : rdCnt 1 40 s1 = (b, s2)) (h3 : rdCnt 1 40 s2 = (c, s3)) {F : List PFn} {s4 : Rd} (h4 : rdList rdFn a.toNat s3 = (F, s4)) {Q : List ByteArray} {s5 : Rd} (h5 : rdList rdStr b.toNat s4 = (Q, s5)) {M : List PFm} {s6 : Rd} (h6 : rdList rdFm c.toNat s5 = (M, s6)) :
    rdPr s = ((F, Q, M), s6) := by
  simp only [rdPr, h1, h2, h3, h4, h5, h6]
/-- What lies behind n stays, where only the reader and blocks below n, and new ones, turn. -/
theorem stay_set {w : World} {b o : Nat} {u : Value} : Upon (fun g => g = b) w (w.setCell ⟨b, o, none⟩ u) := Upon.setCell _ _ rfl

set_option maxHeartbeats 8000000 in
theorem rprog_any {B0 : Nat} {w : World} {p : Nat} {s : Rd} (h : RdAt B0 w p s) (T : WTab w) (hT : 0 < B0 ∧ 1 < B0) :
    Calls Tryd.prog 25 #[.pointer (some ⟨p, 0, none⟩)] w (RPrPost B0 w p (rdPr s).1 (rdPr s).2) := by
  have hlow := h.low
  have hplt := h.lt
  obtain ⟨V0, hV0⟩ : ∃ W0, w.alloc (.cells #[.slice none 0 0, .slice none 0 0, .slice none 0 0] 26) = W0 := ⟨_, rfl⟩
  have hb0 : Below w.heap.size w V0 := by rw [← hV0]; exact down_alloc (Below.refl _ _) _
  have ra0 : rowAt V0 w.heap.size 26 [.slice none 0 0, .slice none 0 0, .slice none 0 0] := by rw [← hV0]; exact rowAt.made _ _ _
  have S0 := Lib.hid (show Since p w V0 from Upon.of_below hb0)
  have R0 := Lib.hid (h.below hb0)
  have T0 := T.upon S0.out ⟨by omega, by omega⟩
  have ne0 : p ≠ w.heap.size := by omega
  have hbd0 := Lib.hid h.bd
  have hmf : ∀ (fn : Fn) (first cap : Array Value) (w : World), (Instr.makeFunc fn first cap).run Tryd.prog w = .ok (.func fn first cap) w := fun _ _ _ _ => rfl
  clear hb0 h T
  go_enter Tryd.func25, Tryd.ntmps25
  go_wp2_with fail
  clear hV0
  refine (count_any R0.out 1 (by unfold maxLen; omega) 60).mono ?_
  rintro e w1 ⟨rfl, hr, hu⟩
  have hn := rdCnt_bd (k := 1) (m := 60) (rdNum1_bd hbd0.out).1 (by omega)
  have hbd1 := Lib.hid (rdCnt_rd (k := 1) (m := 60) hbd0.out)
  obtain ⟨⟨a, s1⟩, ha⟩ : ∃ x, rdCnt 1 60 s = x := ⟨_, rfl⟩
  have HA := Lib.hid ha
  rw [ha] at hr hn hbd1
  rw [ha]
  simp only at hr hn hbd1 ⊢
  obtain ⟨A, rfl⟩ := Int.eq_ofNat_of_zero_le hn.1
  have lA : A ≤ 60 := by omega
  have ra1 := ra0.upon hu ne0.symm
  have S1 := Lib.hid (S0.out.more hu)
  have R1 := Lib.hid hr
  have T1 := T0.upon hu ⟨by omega, by omega⟩
  clear hr hu ra0 S0 R0 T0 hn ha
  go_wp2_with fail
  refine (count_any R1.out 1 (by unfold maxLen; omega) 40).mono ?_
  rintro e w2 ⟨rfl, hr, hu⟩
  have hn := rdCnt_bd (k := 1) (m := 40) (rdNum1_bd hbd1.out).1 (by omega)
  have hbd2 := Lib.hid (rdCnt_rd (k := 1) (m := 40) hbd1.out)
  obtain ⟨⟨b, s2⟩, hb⟩ : ∃ x, rdCnt 1 40 s1 = x := ⟨_, rfl⟩
  have HB := Lib.hid hb
  rw [hb] at hr hn hbd2
  rw [hb]
  simp only at hr hn hbd2 ⊢
  obtain ⟨B, rfl⟩ := Int.eq_ofNat_of_zero_le hn.1
  have lB : B ≤ 40 := by omega
  have ra2 := ra1.upon hu ne0.symm
  have S2 := Lib.hid (S1.out.more hu)
  have R2 := Lib.hid hr
  have T2 := T1.upon hu ⟨by omega, by omega⟩
  clear hr hu ra1 S1 R1 T1 hn hb
  go_wp2_with fail
  refine (count_any R2.out 1 (by unfold maxLen; omega) 40).mono ?_
  rintro e w3 ⟨rfl, hr, hu⟩
  have hn := rdCnt_bd (k := 1) (m := 40) (rdNum1_bd hbd2.out).1 (by omega)
  obtain ⟨⟨c, s3⟩, hc⟩ : ∃ x, rdCnt 1 40 s2 = x := ⟨_, rfl⟩
  have HC := Lib.hid hc
  rw [hc] at hr hn
  rw [hc]
  simp only at hr hn ⊢
  obtain ⟨C, rfl⟩ := Int.eq_ofNat_of_zero_le hn.1
  have lC : C ≤ 40 := by omega
  have ra3 := ra2.upon hu ne0.symm
  have S3 := Lib.hid (S2.out.more hu)
  have T3 := T2.upon hu ⟨by omega, by omega⟩
  have z3 : w.heap.size < w3.heap.size := ra3.lt
  obtain ⟨V3, hV3⟩ : ∃ W, w3.alloc (.cells #[.slice none 0 0, .slice none 0 0, .slice none 0 0] 26) = W := ⟨_, rfl⟩
  have hbV : Below w3.heap.size w3 V3 := by rw [← hV3]; exact down_alloc (Below.refl _ _) _
  have rb4 : rowAt V3 w3.heap.size 26 [.slice none 0 0, .slice none 0 0, .slice none 0 0] := by rw [← hV3]; exact rowAt.made _ _ _
  have ra4 := ra3.below hbV ra3.lt
  have S4 := Lib.hid (S3.out.below hbV)
  have R4 := Lib.hid (hr.below hbV)
  have T4 := T3.upon (upon_of_below hbV) ⟨fun t => t, fun t => t⟩
  have ne1 : p ≠ w3.heap.size := by have := hr.lt; omega
  have zz : w3.heap.size < V3.heap.size := rb4.lt
  have hB3 : B0 ≤ w3.heap.size := by have := hr.lt; omega
  clear hr hu ra2 S2 R2 T2 hn hc ra3 S3 T3 hbV
  go_wp2_with fail
  clear hV3
  refine (funcs_any R4.out T4 hT A (by omega)).mono ?_
  rintro e w4 ⟨v1, rfl, hF, hr, hu⟩
  obtain ⟨⟨F, s4⟩, hf⟩ : ∃ x, rdList rdFn A s3 = x := ⟨_, rfl⟩
  rw [hf] at hF hr
  simp only at hF hr
  have HFE := Lib.hid hf
  obtain ⟨x1, y1, rfl⟩ := hF.slice
  have rb5 := rb4.upon hu ne1.symm
  have ra5 := ra4.upon hu ne0.symm
  have c5 : w4.cell? ⟨w3.heap.size, 0, none⟩ = some (.slice none 0 0) := (rb5.cell 0).trans rfl
  have f5 : w4.frozen? ⟨w3.heap.size, 0, none⟩ = false := rb5.free 0
  have z4 : V3.heap.size ≤ w4.heap.size := hu.size
  obtain ⟨V4, hV4⟩ : ∃ W, w4.setCell ⟨w3.heap.size, 0, none⟩ (.slice x1 F.length y1) = W := ⟨_, rfl⟩
  have rb6 : rowAt V4 w3.heap.size 26 [.slice x1 F.length y1, .slice none 0 0, .slice none 0 0] := by rw [← hV4]; exact rb5.set 0 _
  have ra6 : rowAt V4 w.heap.size 26 [.slice none 0 0, .slice none 0 0, .slice none 0 0] := by rw [← hV4]; exact ra5.other _ _ (by simp; omega)
  have S6 := Lib.hid (show Since p w V4 by rw [← hV4]; exact (S4.out.more hu).set (by simp; omega) _)
  have R6 := Lib.hid (show RdAt B0 V4 p s4 by rw [← hV4]; exact hr.set _ ne1.symm (by omega))
  have F6 := Lib.hid (show fnsAt (fun g => g < V3.heap.size) V4 (.slice x1 F.length y1) F by rw [← hV4]; exact fns_upon hF stay_set fun k _ e => by subst e; exact zz)
  have z6 : V3.heap.size ≤ V4.heap.size := by rw [← hV4]; simpa using z4
  clear hF hr hu rb4 ra4 S4 R4 T4 hf rb5 ra5 z4
  go_wp2_with fail
  clear hV4 c5 f5
  refine (strs_any R6.out B (by omega)).mono ?_
  rintro e w5 ⟨v2, rfl, hQ, hr, hu⟩
  obtain ⟨⟨Q, s5⟩, hq⟩ : ∃ x, rdList rdStr B s4 = x := ⟨_, rfl⟩
  rw [hq] at hQ hr
  simp only at hQ hr
  have HQE := Lib.hid hq
  obtain ⟨x2, y2, rfl⟩ := owns_slice hQ
  have rb7 := rb6.upon hu ne1.symm
  have ra7 := ra6.upon hu ne0.symm
  have c7 : w5.cell? ⟨w3.heap.size, 1, none⟩ = some (.slice none 0 0) := (rb7.cell 1).trans rfl
  have f7 : w5.frozen? ⟨w3.heap.size, 1, none⟩ = false := rb7.free 1
  have z7 : V4.heap.size ≤ w5.heap.size := hu.size
  obtain ⟨V5, hV5⟩ : ∃ W, w5.setCell ⟨w3.heap.size, 1, none⟩ (.slice x2 Q.length y2) = W := ⟨_, rfl⟩
  have rb8 : rowAt V5 w3.heap.size 26 [.slice x1 F.length y1, .slice x2 Q.length y2, .slice none 0 0] := by rw [← hV5]; exact rb7.set 1 _
  have ra8 : rowAt V5 w.heap.size 26 [.slice none 0 0, .slice none 0 0, .slice none 0 0] := by rw [← hV5]; exact ra7.other _ _ (by simp; omega)
  have S8 := Lib.hid (show Since p w V5 by rw [← hV5]; exact (S6.out.more hu).set (by simp; omega) _)
  have R8 := Lib.hid (show RdAt B0 V5 p s5 by rw [← hV5]; exact hr.set _ ne1.symm (by omega))
  have F8 := Lib.hid (show fnsAt (fun g => g < V3.heap.size) V5 (.slice x1 F.length y1) F by
    rw [← hV5]; exact fns_upon (fns_upon F6.out hu fun k _ e => by subst e; omega) stay_set fun k _ e => by subst e; exact zz)
  have Q8 := Lib.hid (show rdAt (fun g => g < V3.heap.size) V5 (.slice x2 Q.length y2) Q.length (strL Q) by
    rw [← hV5]; exact (rdAt.of_owns hQ fun g hg e => by have := own_ge hQ g hg; omega).upon stay_set fun k _ e => by subst e; exact zz)
  have z8 : V3.heap.size ≤ V5.heap.size := by rw [← hV5]; simp; omega
  clear hQ hr hu rb6 ra6 S6 R6 F6 hq rb7 ra7 z7 z6
  go_wp2_with fail
  clear hV5 c7 f7
  refine (forms_any R8.out C (by omega)).mono ?_
  rintro e w6 ⟨v3, rfl, hM, hr, hu⟩
  obtain ⟨⟨M, s6⟩, hq⟩ : ∃ x, rdList rdFm C s5 = x := ⟨_, rfl⟩
  rw [hq] at hM hr
  simp only at hM hr
  have EP := rdPr_eq s (F := F) (s4 := s4) (Q := Q) (s5 := s5) (M := M) (s6 := s6) HA.out HB.out HC.out (by rw [Int.toNat_natCast]; exact HFE.out) (by rw [Int.toNat_natCast]; exact HQE.out) (by rw [Int.toNat_natCast]; exact hq)
  have EQ := Lib.hid EP
  obtain ⟨x3, y3, rfl⟩ := hM.slice
  have rb9 := rb8.upon hu ne1.symm
  have ra9 := ra8.upon hu ne0.symm
  have c9 : w6.cell? ⟨w3.heap.size, 2, none⟩ = some (.slice none 0 0) := (rb9.cell 2).trans rfl
  have f9 : w6.frozen? ⟨w3.heap.size, 2, none⟩ = false := rb9.free 2
  obtain ⟨V6, hV6⟩ : ∃ W, w6.setCell ⟨w3.heap.size, 2, none⟩ (.slice x3 M.length y3) = W := ⟨_, rfl⟩
  have rbA : rowAt V6 w3.heap.size 26 [.slice x1 F.length y1, .slice x2 Q.length y2, .slice x3 M.length y3] := by rw [← hV6]; exact rb9.set 2 _
  have raA : rowAt V6 w.heap.size 26 [.slice none 0 0, .slice none 0 0, .slice none 0 0] := by rw [← hV6]; exact ra9.other _ _ (by simp; omega)
  have SA := Lib.hid (show Since p w V6 by rw [← hV6]; exact (S8.out.more hu).set (by simp; omega) _)
  have RA := Lib.hid (show RdAt B0 V6 p s6 by rw [← hV6]; exact hr.set _ ne1.symm (by omega))
  have PA := Lib.hid (show prAt (fun g => g < V3.heap.size) V6 (.slice x1 F.length y1) (.slice x2 Q.length y2) (.slice x3 M.length y3) (F, Q, M) by
    rw [← hV6]
    refine ⟨fns_upon (fns_upon F8.out hu fun k _ e => by subst e; omega) stay_set fun k _ e => by subst e; exact zz, (Q8.out.upon hu fun k _ e => by subst e; omega).upon stay_set fun k _ e => by subst e; exact zz, ?_⟩
    exact fms_upon (hM.off (fun _ _ _ ⟨a, b, c, v, d, e⟩ => ⟨a, b, c, v, d, e.off fun k _ e => by omega⟩) fun k _ e => by omega) stay_set fun k _ e => by subst e; exact zz)
  have u0 : V6.cell? ⟨w3.heap.size, 0, none⟩ = some (.slice x1 F.length y1) := (rbA.cell 0).trans rfl
  have u1 : V6.cell? ⟨w3.heap.size, 1, none⟩ = some (.slice x2 Q.length y2) := (rbA.cell 1).trans rfl
  have u2 : V6.cell? ⟨w3.heap.size, 2, none⟩ = some (.slice x3 M.length y3) := (rbA.cell 2).trans rfl
  have y0' : V6.cell? ⟨w.heap.size, 0, none⟩ = some (.slice none 0 0) := (raA.cell 0).trans rfl
  have y1' : V6.cell? ⟨w.heap.size, 1, none⟩ = some (.slice none 0 0) := (raA.cell 1).trans rfl
  have y2' : V6.cell? ⟨w.heap.size, 2, none⟩ = some (.slice none 0 0) := (raA.cell 2).trans rfl
  have z0' : V6.frozen? ⟨w.heap.size, 0, none⟩ = false := raA.free 0
  have z1' : V6.frozen? ⟨w.heap.size, 1, none⟩ = false := raA.free 1
  have z2' : V6.frozen? ⟨w.heap.size, 2, none⟩ = false := raA.free 2
  have hzV : w.heap.size < V3.heap.size := by omega
  clear hM hr hu rb8 ra8 S8 R8 F8 Q8 hq rb9 ra9 EP
  go_wp2_with fail
  refine bodyPost_ret (v := .agg #[.slice x1 F.length y1, .slice x2 Q.length y2, .slice x3 M.length y3]) (by simp [results, Tryd.results25, go_sem, y0', y1', y2']) rfl ⟨_, _, _, rfl, ?_, ?_, ?_⟩
  · rw [EQ.out]
    have x : ∀ {W : World} {v : Value} (o' : Nat), prAt (fun g => g < V3.heap.size) W (.slice x1 F.length y1) (.slice x2 Q.length y2) (.slice x3 M.length y3) (F, Q, M) → prAt (fun g => g < V3.heap.size) (W.setCell ⟨w.heap.size, o', none⟩ v) (.slice x1 F.length y1) (.slice x2 Q.length y2) (.slice x3 M.length y3) (F, Q, M) := fun o' h => h.upon stay_set fun k _ e => by subst e; exact hzV
    exact (x _ (x _ (x _ PA.out))).off fun k _ e => by omega
  · rw [EQ.out]
    exact ((RA.out.set _ ne0.symm (by omega)).set _ ne0.symm (by omega)).set _ ne0.symm (by omega)
  · exact (((SA.out).set (Nat.le_refl _) _).set (Nat.le_refl _) _).set (Nat.le_refl _) _
end Go.Proofs.YtabdbciebhmflaaDoor
