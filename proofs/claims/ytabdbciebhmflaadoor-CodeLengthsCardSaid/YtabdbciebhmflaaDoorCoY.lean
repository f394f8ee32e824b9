/-
  Package code: a form written as bytes.
  Conditions: as each states.
-/
import Derived.Test.YtabdbciebhmflaaDoorCoX
namespace Go.Proofs.YtabdbciebhmflaaDoor
open Go.ChangeShapes Go.WideShapes Go.ChangeAt Go.RowKit
set_option linter.unusedVariables false
set_option linter.unusedSimpArgs false
set_option maxRecDepth 100000

def headFm (m : PFm) : List Int := bytesOf m.1 1 ++ bytesOf m.2.1 1 ++ bytesOf m.2.2.1 1 ++ bytesOf m.2.2.2.length 1
theorem encFm_eq (m : PFm) : encFm m = headFm m ++ m.2.2.2.flatMap (bytesOf · 1) := rfl
set_option maxHeartbeats 16000000 in
theorem form_any {K S : Nat → Prop} {w : World} {p : Nat} {v : Value} {bs : List Int} (h : WrAt K w p v bs) (m : PFm) (sv : Value) (hs : rdAt S w sv m.2.2.2.length (m.2.2.2.map (Value.int .i64)))
    (hK : ∀ g, g < w.heap.size → ¬ S g → K g) (hn : m.2.2.2.length ≤ 3000) (hl : bs.length ≤ 900000000) :
    Calls Tryd.prog 35 #[.pointer (some ⟨p, 0, none⟩), .agg #[.int .i64 m.1, .int .i64 m.2.1, .int .i64 m.2.2.1, sv]] w (Wrote K w p (bs ++ encFm m)) := by
  obtain ⟨kd, a, b, l⟩ := m
  simp only at hs hn
  obtain ⟨sa, sc, rfl, hs⟩ := hs
  have EF := Lib.hid (encFm_eq (kd, a, b, l))
  have EH := Lib.hid (show headFm (kd, a, b, l) = bytesOf kd 1 ++ bytesOf a 1 ++ bytesOf b 1 ++ bytesOf l.length 1 from rfl)
  obtain ⟨W0, hW0⟩ : ∃ W0, w.alloc (.cells #[.int .i64 kd, .int .i64 a, .int .i64 b, .slice sa l.length sc] 50) = W0 := ⟨_, rfl⟩
  have hb0 : Below w.heap.size w W0 := by rw [← hW0]; exact (Below.refl _ _).alloc (Nat.le_refl _) _
  have z0 : w.heap.size < W0.heap.size := by rw [← hW0]; simp
  have r0 : rowAt W0 w.heap.size 50 [.int .i64 kd, .int .i64 a, .int .i64 b, .slice sa l.length sc] := by rw [← hW0]; exact rowAt.made _ _ _
  have h0 := h.more hb0 (Nat.le_refl _) z0
  have S0 := Lib.hid (show Stays K w W0 from Stays.of_below hb0)
  have c0 : W0.cell? ⟨w.heap.size, 0, none⟩ = some (.int .i64 kd) := (r0.cell 0).trans rfl
  have HS := Lib.hid hs
  have HK := Lib.hid hK
  clear hs hK h hb0
  go_enter Tryd.func35, Tryd.ntmps35
  go_wp2_with fail
  refine (number_w h0 kd 1 (by omega) (by omega)).mono ?_
  rintro e w1 ⟨rfl, v1, h1, s1⟩
  have r1 := r0.upon s1 fun hn => hn (.inr rfl)
  have d1 : w1.cell? ⟨w.heap.size, 1, none⟩ = some (.int .i64 a) := (r1.cell 1).trans rfl
  have S1 := Lib.hid (Stays.trans S0.out (s1.less fun g hg => .inl hg))
  have H1 := Lib.hid h1
  clear c0 r0 s1 h0 hW0 z0 h1
  go_wp2_with fail
  refine (number_w H1.out a 1 (by omega) (by simp [bytesOf_length]; omega)).mono ?_
  rintro e w2 ⟨rfl, v2, h2, s2⟩
  have r2 := r1.upon s2 fun hn => hn (.inr rfl)
  have e2 : w2.cell? ⟨w.heap.size, 2, none⟩ = some (.int .i64 b) := (r2.cell 2).trans rfl
  have S2 := Lib.hid (Stays.trans S1.out (s2.less fun g hg => .inl hg))
  have H2 := Lib.hid h2
  clear d1 r1 s2 h2
  go_wp2_with fail
  refine (number_w H2.out b 1 (by omega) (by simp [bytesOf_length]; omega)).mono ?_
  rintro e w3 ⟨rfl, v3, h3, s3⟩
  have r3 := r2.upon s3 fun hn => hn (.inr rfl)
  have e3 : w3.cell? ⟨w.heap.size, 3, none⟩ = some (.slice sa l.length sc) := (r3.cell 3).trans rfl
  have S3 := Lib.hid (Stays.trans S2.out (s3.less fun g hg => .inl hg))
  have H3 := Lib.hid h3
  clear e2 r2 s3 h3
  go_wp2_with fail
  refine (number_w H3.out l.length 1 (by omega) (by simp [bytesOf_length]; omega)).mono ?_
  rintro e w4 ⟨rfl, v4, h4, s4⟩
  have r4 := r3.upon s4 fun hn => hn (.inr rfl)
  have e4 : w4.cell? ⟨w.heap.size, 3, none⟩ = some (.slice sa l.length sc) := (r4.cell 3).trans rfl
  have S4 := Lib.hid (Stays.trans S3.out (s4.less fun g hg => .inl hg))
  have H4 := Lib.hid (h4.less (K' := K) fun g hg => .inl hg)
  clear e3 r3 s4 r4 h4
  go_wp2_with fail
  go_loopw [26] (fun i wr => ∃ (k : Nat) (v' : Value) (L : List Int), i = .int .i64 k ∧ k ≤ l.length ∧ L.length ≤ 900000004 + 10 * k ∧ Hid (L = bs ++ headFm (kd, a, b, l) ++ (l.take k).flatMap (bytesOf · 1)) ∧ Hid (WrAt K wr p v' L) ∧ Hid (Stays K w wr)) (fun i _ => l.length - (intOf i).toNat)
  case atStart => exact ⟨0, v4, _, rfl, Nat.zero_le _, by simp [bytesOf_length]; omega, Lib.hid (by rw [EH.out]; simp), H4, S4⟩
  case round =>
    obtain ⟨k, v', L, rfl, hk, hL, HL, HW, HST⟩ := hrel
    by_cases hlt : k < l.length
    · have hsn := Lib.hid (show (l.take (k + 1)).flatMap (bytesOf · 1) = (l.take k).flatMap (bytesOf · 1) ++ bytesOf l[k] 1 by rw [List.take_succ_eq_append_getElem hlt, List.flatMap_append]; simp only [List.flatMap_cons, List.flatMap_nil, List.append_nil])
      have hx := Lib.hid (List.getElem?_eq_getElem hlt)
      generalize l[k] = q at *
      rcases HS.out with hz | ⟨rb, ro, rfl, hS, hrb, hc⟩
      · omega
      · have x0 : wr.cell? ⟨rb, ro + k, none⟩ = some (.int .i64 q) := by rw [HST.out.cell hrb (HK.out rb hrb hS)]; exact hc _ _ (by rw [List.getElem?_map, hx.out]; rfl)
        clear hc
        go_wp2_with fail
        refine (number_w HW.out q 1 (by omega) (by omega)).mono ?_
        rintro e w5 ⟨rfl, v5, h5, s5⟩
        have S5 := Lib.hid (Stays.trans HST.out s5)
        have H5 := Lib.hid h5
        clear s5 h5
        go_wp2_with fail
        go_roundw
        case rel =>
          refine ⟨k + 1, _, _, by go_num, by omega, ?_, Lib.hid ?_, H5, S5⟩
          · simp only [List.length_append, bytesOf_length]; omega
          · rw [hsn.out, HL.out]; simp only [List.append_assoc]
        case measure => simp [intOf]; omega
    · obtain rfl : k = l.length := by omega
      go_wp2
      go_end0
      refine ⟨rfl, v', ?_, HST.out⟩
      have e := HL.out
      rw [List.take_length] at e
      rw [EF.out, ← List.append_assoc, ← e]
      exact HW.out
end Go.Proofs.YtabdbciebhmflaaDoor
