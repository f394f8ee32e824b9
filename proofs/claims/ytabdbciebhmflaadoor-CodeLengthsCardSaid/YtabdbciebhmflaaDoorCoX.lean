/-
  Package code: a function written as bytes.
  Conditions: as each states.
-/
import Derived.Test.YtabdbciebhmflaaDoorCoW
import Derived.Test.YtabdbciebhmflaaDoorCoT
import Derived.StillTailTactics
import Derived.Deep.RegionHeld3
namespace Go.Proofs.YtabdbciebhmflaaDoor
open Go.ChangeShapes Go.WideShapes Go.ChangeAt Go.RowKit
set_option linter.unusedVariables false
set_option linter.unusedSimpArgs false
set_option maxRecDepth 100000

/-- What is written behind a call: the writer, what stays. -/
def Wrote (K : Nat → Prop) (w : World) (p : Nat) (bs : List Int) (x : Ending) (w' : World) : Prop := x = .returned (.tuple #[]) ∧ ∃ v', WrAt K w' p v' bs ∧ Stays K w w'
theorem number_w {K : Nat → Prop} {w : World} {p : Nat} {v : Value} {bs : List Int} (h : WrAt K w p v bs) (n : Int) (k : Nat) (hk : k ≤ 8) (hl : bs.length + k ≤ 1000000000) :
    Calls Tryd.prog 33 #[.pointer (some ⟨p, 0, none⟩), .int .i64 n, .int .i64 k] w (Wrote K w p (bs ++ bytesOf n k)) := number_any h n k hk hl

theorem aW_le (o : Int) : aW o ≤ 8 := by
  unfold aW
  have : ∀ k, aT.getD k 0 ≤ 8 := fun k => by
    by_cases h : k < 38
    · have : ∀ k : Nat, k < 38 → aT.getD k 0 ≤ 8 := by decide
      exact this k h
    · rw [List.getD_eq_getElem?_getD, List.getElem?_eq_none (by simp [aT]; omega)]; simp
  exact this _
theorem bW_le (o : Int) : bW o ≤ 1 := by
  unfold bW
  have : ∀ k, bT.getD k 0 ≤ 1 := fun k => by
    by_cases h : k < 38
    · have : ∀ k : Nat, k < 38 → bT.getD k 0 ≤ 1 := by decide
      exact this k h
    · rw [List.getD_eq_getElem?_getD, List.getElem?_eq_none (by simp [bT]; omega)]; simp
  exact this _
theorem encIns_length (p : PIns) : (encIns p).length ≤ 10 := by
  unfold encIns
  simp only [List.length_append, bytesOf_length]
  have := aW_le p.1; have := bW_le p.1
  omega

theorem ins_op {p : PIns} (h : insG p = true) : ∃ q : Nat, q < 38 ∧ p.1 = q := by
  unfold insG opGood at h
  simp only [Bool.and_eq_true, decide_eq_true_eq] at h
  obtain ⟨⟨⟨h1, h2⟩, _⟩, _⟩ := h
  exact ⟨p.1.toNat, by omega, by omega⟩
theorem WrAt.drew {K : Nat → Prop} {w : World} {p : Nat} {v : Value} {bs : List Int} (h : WrAt K w p v bs) : WrAt K w.drew p v bs := ⟨h.root, h.own, h.off, h.keep⟩
theorem Stays.drew {K : Nat → Prop} {w w' : World} (h : Stays K w w') : Stays K w w'.drew := ⟨h.os, h.tape, h.output, h.size, h.block⟩

def headFn (f : PFn) : List Int := bytesOf f.1 1 ++ bytesOf f.2.1 1 ++ bytesOf f.2.2.length 2
theorem encFn_eq (f : PFn) : encFn f = headFn f ++ f.2.2.flatMap encIns := rfl

set_option maxHeartbeats 16000000 in
theorem function_any {K S : Nat → Prop} {w : World} {p : Nat} {v : Value} {bs : List Int} (h : WrAt K w p v bs) (T : WTab w) (f : PFn) (hf : ∀ i ∈ f.2.2, insG i = true) (sv : Value) (hs : rdAt S w sv f.2.2.length (insL f.2.2))
    (hK : ∀ g, g < w.heap.size → ¬ S g → K g) (hKg : K 0 ∧ K 1) (hn : f.2.2.length ≤ 3000) (hl : bs.length ≤ 500000000) :
    Calls Tryd.prog 34 #[.pointer (some ⟨p, 0, none⟩), .agg #[.int .i64 f.1, .int .i64 f.2.1, sv]] w (Wrote K w p (bs ++ encFn f)) := by
  obtain ⟨loc, free, l⟩ := f
  simp only at hf hs hn
  obtain ⟨sa, sc, rfl, hs⟩ := hs
  have EF := Lib.hid (encFn_eq (loc, free, l))
  have EH := Lib.hid (show headFn (loc, free, l) = bytesOf loc 1 ++ bytesOf free 1 ++ bytesOf l.length 2 from rfl)
  obtain ⟨W0, hW0⟩ : ∃ W0, w.alloc (.cells #[.int .i64 loc, .int .i64 free, .slice sa l.length sc] 45) = W0 := ⟨_, rfl⟩
  have hb0 : Below w.heap.size w W0 := by rw [← hW0]; exact (Below.refl _ _).alloc (Nat.le_refl _) _
  have z0 : w.heap.size < W0.heap.size := by rw [← hW0]; simp
  have r0 : rowAt W0 w.heap.size 45 [.int .i64 loc, .int .i64 free, .slice sa l.length sc] := by rw [← hW0]; exact rowAt.made _ _ _
  have h0 := h.more hb0 (Nat.le_refl _) z0
  have S0 := Lib.hid (show Stays K w W0 from Stays.of_below hb0)
  have c0 : W0.cell? ⟨w.heap.size, 0, none⟩ = some (.int .i64 loc) := (r0.cell 0).trans rfl
  have c1 : W0.cell? ⟨w.heap.size, 1, none⟩ = some (.int .i64 free) := (r0.cell 1).trans rfl
  have c2 : W0.cell? ⟨w.heap.size, 2, none⟩ = some (.slice sa l.length sc) := (r0.cell 2).trans rfl
  have HS := Lib.hid hs
  have HF := Lib.hid hf
  have HK := Lib.hid hK
  clear hs hf hK h hb0
  go_enter Tryd.func34, Tryd.ntmps34
  go_wp2_with fail
  refine (number_w h0 loc 1 (by omega) (by omega)).mono ?_
  rintro e w1 ⟨rfl, v1, h1, s1⟩
  have r1 := r0.upon s1 fun hn => hn (.inr rfl)
  have d0 : w1.cell? ⟨w.heap.size, 0, none⟩ = some (.int .i64 loc) := (r1.cell 0).trans rfl
  have d1 : w1.cell? ⟨w.heap.size, 1, none⟩ = some (.int .i64 free) := (r1.cell 1).trans rfl
  have d2 : w1.cell? ⟨w.heap.size, 2, none⟩ = some (.slice sa l.length sc) := (r1.cell 2).trans rfl
  have S1 := Lib.hid (Stays.trans S0.out (s1.less fun g hg => .inl hg))
  have H1 := Lib.hid h1
  clear c0 c1 c2 r0 s1 h0 hW0 z0 h1
  go_wp2_with fail
  refine (number_w H1.out free 1 (by omega) (by simp [bytesOf_length]; omega)).mono ?_
  rintro e w2 ⟨rfl, v2, h2, s2⟩
  have r2 := r1.upon s2 fun hn => hn (.inr rfl)
  have e2 : w2.cell? ⟨w.heap.size, 2, none⟩ = some (.slice sa l.length sc) := (r2.cell 2).trans rfl
  have S2 := Lib.hid (Stays.trans S1.out (s2.less fun g hg => .inl hg))
  have H2 := Lib.hid h2
  clear d0 d1 d2 r1 s2 h2
  go_wp2_with fail
  refine (number_w H2.out l.length 2 (by omega) (by simp [bytesOf_length]; omega)).mono ?_
  rintro e w3 ⟨rfl, v3, h3, s3⟩
  have r3 := r2.upon s3 fun hn => hn (.inr rfl)
  have e3 : w3.cell? ⟨w.heap.size, 2, none⟩ = some (.slice sa l.length sc) := (r3.cell 2).trans rfl
  have S3 := Lib.hid (Stays.trans S2.out (s3.less fun g hg => .inl hg))
  have H3 := Lib.hid (h3.less (K' := K) fun g hg => .inl hg)
  clear e2 r2 s3 r3 h3
  go_wp2_with fail
  go_loopw [22] (fun i wr => ∃ (k : Nat) (v' : Value) (L : List Int), i = .int .i64 k ∧ k ≤ l.length ∧ L.length ≤ 500000004 + 10 * k ∧ Hid (L = bs ++ headFn (loc, free, l) ++ (l.take k).flatMap encIns) ∧ Hid (WrAt K wr p v' L) ∧ Hid (Stays K w wr)) (fun i _ => l.length - (intOf i).toNat)
  case atStart => exact ⟨0, v3, _, rfl, Nat.zero_le _, by simp [bytesOf_length]; omega, Lib.hid (by rw [EH.out]; simp), H3, S3⟩
  case round =>
    obtain ⟨k, v', L, rfl, hk, hL, HL, HW, HST⟩ := hrel
    by_cases hlt : k < l.length
    · have hx := Lib.hid (List.getElem?_eq_getElem hlt)
      have hg := HF.out l[k] (List.getElem_mem hlt)
      have hsn := Lib.hid (show (l.take (k + 1)).flatMap encIns = (l.take k).flatMap encIns ++ encIns l[k] by rw [List.take_succ_eq_append_getElem hlt, List.flatMap_append]; simp only [List.flatMap_cons, List.flatMap_nil, List.append_nil])
      obtain ⟨i0, i1, i2⟩ := insL_get l k _ hx.out
      generalize l[k] = q at *
      obtain ⟨op, a, b⟩ := q
      obtain ⟨o, ho, ho'⟩ := ins_op hg
      simp only at ho' i0 i1 i2
      subst ho'
      rcases HS.out with hz | ⟨rb, ro, rfl, hS, hrb, hc⟩
      · omega
      · have cc : ∀ j, wr.cell? ⟨rb, ro + j, none⟩ = w.cell? ⟨rb, ro + j, none⟩ := fun j => HST.out.cell hrb (HK.out rb hrb hS)
        have x0 : wr.cell? ⟨rb, ro + k * 3, none⟩ = some (.int .i64 (o : Int)) := by rw [cc]; exact hc _ _ i0
        have x1 : wr.cell? ⟨rb, ro + k * 3 + 1, none⟩ = some (.int .i64 a) := by rw [show ro + k * 3 + 1 = ro + (k * 3 + 1) by omega, cc]; exact hc _ _ i1
        have x2 : wr.cell? ⟨rb, ro + k * 3 + 2, none⟩ = some (.int .i64 b) := by rw [show ro + k * 3 + 2 = ro + (k * 3 + 2) by omega, cc]; exact hc _ _ i2
        obtain ⟨W, hW⟩ : ∃ W, wr.alloc (.cells #[.int .i64 (o : Int), .int .i64 a, .int .i64 b] 47) = W := ⟨_, rfl⟩
        have hbW : Below wr.heap.size wr W := by rw [← hW]; exact (Below.refl _ _).alloc (Nat.le_refl _) _
        have zW : wr.heap.size < W.heap.size := by rw [← hW]; simp
        have rW : rowAt W wr.heap.size 47 [.int .i64 (o : Int), .int .i64 a, .int .i64 b] := by rw [← hW]; exact rowAt.made _ _ _
        have hWW := HW.out.more hbW (Nat.le_refl _) zW
        have y0 : W.cell? ⟨wr.heap.size, 0, none⟩ = some (.int .i64 (o : Int)) := (rW.cell 0).trans rfl
        have SW := Lib.hid (Stays.trans HST.out (Stays.of_below hbW))
        clear cc hc i0 i1 i2 hbW
        go_wp2_with fail
        clear hW x0 x1 x2
        refine (number_w hWW (o : Int) 1 (by omega) (by omega)).mono ?_
        rintro e w4 ⟨rfl, v4, h4, s4⟩
        have r4 := rW.upon s4 fun hn => hn (.inr rfl)
        have z4 : wr.heap.size < w4.heap.size := r4.lt
        have S4 := Lib.hid (Stays.trans SW.out (s4.less fun g hg => .inl hg))
        have u0 : w4.cell? ⟨wr.heap.size, 0, none⟩ = some (.int .i64 (o : Int)) := (r4.cell 0).trans rfl
        have u1 : w4.cell? ⟨wr.heap.size, 1, none⟩ = some (.int .i64 a) := (r4.cell 1).trans rfl
        have u2 : w4.cell? ⟨wr.heap.size, 2, none⟩ = some (.int .i64 b) := (r4.cell 2).trans rfl
        have EI := Lib.hid (show encIns ((o : Int), a, b) = bytesOf (o : Int) 1 ++ bytesOf a (aW (o : Int)) ++ bytesOf b (bW (o : Int)) from rfl)
        have tA : w4.cell? ⟨0, o, none⟩ = some (.int .u8 (aW (o : Int))) := (S4.out.cell T.size.1 hKg.1).trans (T.a o ho)
        have tB : w4.cell? ⟨1, o, none⟩ = some (.int .u8 (bW (o : Int))) := (S4.out.cell T.size.2 hKg.2).trans (T.b o ho)
        have lA := aW_le (o : Int)
        have lB := bW_le (o : Int)
        obtain ⟨A, hA⟩ : ∃ A, aW (o : Int) = A := ⟨_, rfl⟩
        obtain ⟨B, hB⟩ : ∃ B, bW (o : Int) = B := ⟨_, rfl⟩
        rw [hA] at tA lA EI
        rw [hB] at tB lB EI
        have H4 := Lib.hid h4
        clear hA hB y0 rW hWW zW s4 h4
        have hoI : (o : Int) < 38 := by omega
        have wA : IntKind.i64.wrap (A : Int) = A := IntWalk.i64_in _ (by omega)
        have wB : IntKind.i64.wrap (B : Int) = B := IntWalk.i64_in _ (by omega)
        go_wp2_with fail
        refine wp_region_still_tail 8 (by kernel_rfl) (by kernel_rfl) ?_
        simp only [List.take_succ_cons, List.take_zero, List.drop_succ_cons, List.drop_zero]
        iterate 8 still_step
        refine wpStill_nil ?_
        change wpList _ _ _ _ _ w4.drew
        go_wp2_with fail
        refine (number_w H4.out.drew a A (by omega) (by simp [bytesOf_length]; omega)).mono ?_
        rintro e w5 ⟨rfl, v_w5, h_w5, s_w5⟩
        have r5 : rowAt w5 wr.heap.size 47 [.int .i64 (o : Int), .int .i64 a, .int .i64 b] := rowAt.upon (w := w4.drew) r4 s_w5 fun hn => hn (.inr rfl)
        have S5 := Lib.hid (Stays.trans S4.out.drew (s_w5.less fun g hg => .inl hg))
        have H5 := Lib.hid h_w5
        have q0 : w5.cell? ⟨wr.heap.size, 0, none⟩ = some (.int .i64 (o : Int)) := (r5.cell 0).trans rfl
        have q2 : w5.cell? ⟨wr.heap.size, 2, none⟩ = some (.int .i64 b) := (r5.cell 2).trans rfl
        have tB5 : w5.cell? ⟨1, o, none⟩ = some (.int .u8 B) := (s_w5.cell (w := w4.drew) (World.block_lt_of_cell? w4 _ tB) (.inl hKg.2)).trans tB
        clear u0 u1 u2 tA tB r4 s_w5 h_w5
        go_wp2_with fail
        refine wp_region_still_tail 8 (by kernel_rfl) (by kernel_rfl) ?_
        simp only [List.take_succ_cons, List.take_zero, List.drop_succ_cons, List.drop_zero]
        iterate 8 still_step
        refine wpStill_nil ?_
        change wpList _ _ _ _ _ w5.drew
        go_wp2_with fail
        refine (number_w H5.out.drew b B (by omega) (by simp [bytesOf_length]; omega)).mono ?_
        rintro e w6 ⟨rfl, v_w6, h_w6, s_w6⟩
        have S6 := Lib.hid (Stays.trans S5.out.drew (s_w6.less fun g hg => .inl hg))
        have H6 := Lib.hid (h_w6.less (K' := K) fun g hg => .inl hg)
        clear q0 q2 tB5 r5 s_w6 h_w6
        go_wp2_with fail
        go_roundw
        case rel =>
          refine ⟨k + 1, _, _, by go_num, by omega, ?_, Lib.hid ?_, H6, S6⟩
          · simp only [List.length_append, bytesOf_length]; omega
          · rw [hsn.out, EI.out, HL.out]; simp only [List.append_assoc]
        case measure => simp [intOf]; omega
    · obtain rfl : k = l.length := by omega
      go_wp2
      go_end0
      refine ⟨rfl, v', ?_, HST.out⟩
      have e := HL.out
      rw [List.take_length] at e
      rw [EF.out, ← List.append_assoc, ← e]
      exact HW.out
end Go.Proofs.YtabdbciebhmflaaDoor
