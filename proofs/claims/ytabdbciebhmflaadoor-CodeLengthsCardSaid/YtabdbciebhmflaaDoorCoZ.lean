/-
  Package code: a program written as bytes; Encode.
  Conditions: as each states.
-/
import Derived.Test.YtabdbciebhmflaaDoorCoY
import Derived.Test.YtabdbciebhmflaaDoorAppS
namespace Go.Proofs.YtabdbciebhmflaaDoor
open Go.ChangeShapes Go.WideShapes Go.ChangeAt Go.RowKit
set_option linter.unusedVariables false
set_option linter.unusedSimpArgs false
set_option maxRecDepth 100000

theorem prG_parts {P : PPr} (h : prG P = true) : P.1.length ≤ 60 ∧ P.2.1.length ≤ 40 ∧ P.2.2.length ≤ 40 ∧ (∀ f ∈ P.1, fnG f = true) ∧ (∀ s ∈ P.2.1, s.size ≤ 60) ∧ ∀ m ∈ P.2.2, fmG P.2.2.length m = true := by
  unfold prG at h
  simp only [Bool.and_eq_true, decide_eq_true_eq] at h
  obtain ⟨⟨a, b, c⟩, h1, h2, h3⟩ := h
  refine ⟨a, b, c, fun f hf => ?_, fun s hs => ?_, fun m hm => ?_⟩
  · obtain ⟨j, hj, e⟩ := List.getElem_of_mem hf
    unfold fnsG at h1
    simp only [Bool.and_eq_true] at h1
    have := allI_at h1.2 (show P.1[j]? = some f by rw [List.getElem?_eq_getElem hj, e])
    unfold fnK at this
    simp only [Bool.and_eq_true] at this
    exact this.2
  · obtain ⟨j, hj, e⟩ := List.getElem_of_mem hs
    have := allI_at h2 (show P.2.1[j]? = some s by rw [List.getElem?_eq_getElem hj, e])
    exact of_decide_eq_true this
  · obtain ⟨j, hj, e⟩ := List.getElem_of_mem hm
    exact allI_at h3 (show P.2.2[j]? = some m by rw [List.getElem?_eq_getElem hj, e])
theorem fnG_parts {f : PFn} (h : fnG f = true) : (0 ≤ f.1 ∧ f.1 < 61) ∧ (0 ≤ f.2.1 ∧ f.2.1 < 31) ∧ 0 < f.2.2.length ∧ f.2.2.length ≤ 600 ∧ ∀ p ∈ f.2.2, insG p = true := by
  unfold fnG belowB at h
  simp only [Bool.and_eq_true, decide_eq_true_eq] at h
  obtain ⟨a, b, c, d⟩ := h
  refine ⟨a, b, c.1, c.2, fun p hp => ?_⟩
  obtain ⟨j, hj, e⟩ := List.getElem_of_mem hp
  exact allI_at d (show f.2.2[j]? = some p by rw [List.getElem?_eq_getElem hj, e])
theorem fmG_cons {n : Nat} {m : PFm} (h : fmG n m = true) : m.2.2.2.length ≤ 20 := by
  unfold fmG at h
  split at h
  · simp only [Bool.and_eq_true, decide_eq_true_eq] at h; omega
  · split at h
    · simp only [Bool.and_eq_true, decide_eq_true_eq] at h; omega
    · split at h
      · simp only [Bool.and_eq_true, decide_eq_true_eq] at h; omega
      · split at h
        · unfold consG at h
          simp only [Bool.and_eq_true, decide_eq_true_eq] at h; omega
        · cases h
theorem flatMap_len {α : Type} (g : α → List Int) (N : Nat) : ∀ (l : List α), (∀ x ∈ l, (g x).length ≤ N) → (l.flatMap g).length ≤ N * l.length
  | [], _ => by simp
  | x :: l, h => by
    have h1 := h x (List.mem_cons_self ..)
    have h2 := flatMap_len g N l fun y hy => h y (List.mem_cons_of_mem _ hy)
    simp only [List.flatMap_cons, List.length_append, List.length_cons, Nat.mul_add]
    omega
theorem encFn_length {f : PFn} (h : f.2.2.length ≤ 600) : (encFn f).length ≤ 6004 := by
  have := flatMap_len encIns 10 f.2.2 fun p _ => encIns_length p
  rw [encFn_eq]
  simp only [headFn, List.length_append, bytesOf_length]
  omega
theorem encFm_length {m : PFm} (h : m.2.2.2.length ≤ 20) : (encFm m).length ≤ 24 := by
  have := flatMap_len (bytesOf · 1) 1 m.2.2.2 fun p _ => by rw [bytesOf_length]; exact Nat.le_refl _
  rw [encFm_eq]
  simp only [headFm, List.length_append, bytesOf_length]
  omega
theorem strI_cells (s : ByteArray) : bytesL (strI s) = Lib.strCells s := by simp [strI, Lib.strCells]
theorem strI_length (s : ByteArray) : (strI s).length = s.size := by rw [strI, List.length_map, Array.length_toList]; rfl
theorem encStr_length {s : ByteArray} (h : s.size ≤ 60) : (encStr s).length ≤ 61 := by
  simp only [encStr, List.length_append, bytesOf_length, strI_length]; omega
theorem encPr_eq (P : PPr) : encPr P = headI P ++ P.1.flatMap encFn ++ P.2.1.flatMap encStr ++ P.2.2.flatMap encFm := rfl
theorem take_snoc_flat {α : Type} (g : α → List Int) {l : List α} {k : Nat} (h : k < l.length) : (l.take (k + 1)).flatMap g = (l.take k).flatMap g ++ g l[k] := by
  rw [List.take_succ_eq_append_getElem h, List.flatMap_append]; simp only [List.flatMap_cons, List.flatMap_nil, List.append_nil]
theorem WTab.stays {K : Nat → Prop} {w w' : World} (T : WTab w) (h : Stays K w w') (hK : K 0 ∧ K 1) : WTab w' :=
  ⟨fun k hk => (h.cell T.size.1 hK.1).trans (T.a k hk), fun k hk => (h.cell T.size.2 hK.2).trans (T.b k hk)⟩
theorem under_str : Tryd.prog.underlying 9 = some .string := by kernel_rfl
theorem grown_of {w w' : World} {row : Option Nat} (h : w.grownBy w' row) : Upon (fun g => row = some g) w w' :=
  ⟨h.os, h.tape, h.output, h.size, fun k hk hs => h.block k hk fun e => hs e.symm⟩

set_option maxHeartbeats 16000000 in
theorem program_any {K : Nat → Prop} {w : World} {p : Nat} {v : Value} (h : WrAt K w p v []) (T : WTab w) (P : PPr) (hG : prG P = true) (v1 v2 v3 : Value) (hs : prAt (fun g => ¬ K g) w v1 v2 v3 P)
    (hKt : K 0 ∧ K 1) :
    Calls Tryd.prog 20 #[.pointer (some ⟨p, 0, none⟩), .agg #[v1, v2, v3]] w (Wrote K w p (encPr P)) := by
  obtain ⟨g1, g2, g3, G1, G2, G3⟩ := prG_parts hG
  obtain ⟨i0, hi, hz0, hz1, hz2⟩ := info_parts info_byte
  obtain ⟨F, Q, M⟩ := P
  have EP := Lib.hid (encPr_eq (F, Q, M))
  have EH := Lib.hid (show headI (F, Q, M) = bytesOf F.length 1 ++ bytesOf Q.length 1 ++ bytesOf M.length 1 from rfl)
  obtain ⟨h1, h2, h3⟩ := hs
  simp only at h1 h2 h3 g1 g2 g3 G1 G2 G3
  have HG1 := Lib.hid G1; have HG2 := Lib.hid G2; have HG3 := Lib.hid G3
  obtain ⟨a1, c1, rfl, h1⟩ := h1
  obtain ⟨a2, c2, rfl, h2⟩ := h2
  obtain ⟨a3, c3, rfl, h3⟩ := h3
  have PF := Lib.hid h1; have PQ := Lib.hid h2; have PM := Lib.hid h3
  have HT := Lib.hid T
  clear G1 G2 G3 h1 h2 h3 hG T
  obtain ⟨K2, hK2⟩ : ∃ K2, K2 = (fun g => K g ∨ g = w.heap.size) := ⟨_, rfl⟩
  have k2 : K2 w.heap.size := by rw [hK2]; exact .inr rfl
  have kK := Lib.hid (show ∀ g, K g → K2 g from fun g hg => by rw [hK2]; exact .inl hg)
  have kT : K2 0 ∧ K2 1 := ⟨kK.out _ hKt.1, kK.out _ hKt.2⟩
  obtain ⟨W0, hW0⟩ : ∃ W0, w.alloc (.cells #[.slice a1 F.length c1, .slice a2 Q.length c2, .slice a3 M.length c3] 26) = W0 := ⟨_, rfl⟩
  have hb0 : Below w.heap.size w W0 := by rw [← hW0]; exact (Below.refl _ _).alloc (Nat.le_refl _) _
  have z0 : w.heap.size < W0.heap.size := by rw [← hW0]; simp
  have r0 : rowAt W0 w.heap.size 26 [.slice a1 F.length c1, .slice a2 Q.length c2, .slice a3 M.length c3] := by rw [← hW0]; exact rowAt.made _ _ _
  have h0 : WrAt K2 W0 p v [] := by rw [hK2]; exact h.more hb0 (Nat.le_refl _) z0
  have S0 := Lib.hid (show Stays K2 w W0 from Stays.of_below hb0)
  have x0 : W0.cell? ⟨w.heap.size, 0, none⟩ = some (.slice a1 F.length c1) := (r0.cell 0).trans rfl
  clear h hb0 hK2
  go_enter Tryd.func20, Tryd.ntmps20
  go_wp2_with fail
  refine (number_w h0 F.length 1 (by omega) (by simp)).mono ?_
  rintro e w1 ⟨rfl, v1, h1, s1⟩
  have r1 := r0.upon s1 fun hn => hn k2
  have x1 : w1.cell? ⟨w.heap.size, 1, none⟩ = some (.slice a2 Q.length c2) := (r1.cell 1).trans rfl
  have S1 := Lib.hid (Stays.trans S0.out s1)
  have H1 := Lib.hid h1
  clear x0 r0 s1 h0 hW0 z0 h1
  go_wp2_with fail
  refine (number_w H1.out Q.length 1 (by omega) (by simp [bytesOf_length])).mono ?_
  rintro e w2 ⟨rfl, v2, h2, s2⟩
  have r2 := r1.upon s2 fun hn => hn k2
  have x2 : w2.cell? ⟨w.heap.size, 2, none⟩ = some (.slice a3 M.length c3) := (r2.cell 2).trans rfl
  have S2 := Lib.hid (Stays.trans S1.out s2)
  have H2 := Lib.hid h2
  clear x1 r1 s2 h2
  go_wp2_with fail
  refine (number_w H2.out M.length 1 (by omega) (by simp [bytesOf_length])).mono ?_
  rintro e w3 ⟨rfl, v3, h3, s3⟩
  have r3 := r2.upon s3 fun hn => hn k2
  have S3 := Lib.hid (Stays.trans S2.out s3)
  have H3 := Lib.hid h3
  have x3 : w3.cell? ⟨w.heap.size, 0, none⟩ = some (.slice a1 F.length c1) := (r3.cell 0).trans rfl
  clear x2 r2 s3 h3
  go_wp2_with fail
  go_loopw [28] (fun i wr => ∃ (k : Nat) (v' : Value) (L : List Int), i = .int .i64 k ∧ k ≤ F.length ∧ L.length ≤ 3 + 6004 * k ∧ Hid (L = headI (F, Q, M) ++ (F.take k).flatMap encFn) ∧ Hid (WrAt K2 wr p v' L) ∧ Hid (Stays K2 w wr) ∧ Hid (rowAt wr w.heap.size 26 [.slice a1 F.length c1, .slice a2 Q.length c2, .slice a3 M.length c3])) (fun i _ => F.length - (intOf i).toNat)
  case atStart => exact ⟨0, v3, _, rfl, Nat.zero_le _, by simp [bytesOf_length], Lib.hid (by rw [EH.out]; simp), H3, S3, Lib.hid r3⟩
  case round =>
    obtain ⟨k, v', L, rfl, hk, hL, HL, HW, HST, HR⟩ := hrel
    by_cases hlt : k < F.length
    · have hsn := Lib.hid (take_snoc_flat encFn hlt)
      have hx := Lib.hid (List.getElem?_eq_getElem hlt)
      have hgf := fnG_parts (HG1.out F[k] (List.getElem_mem hlt))
      have hlf := encFn_length hgf.2.2.2.1
      obtain ⟨-, -, -, hn6, hgi⟩ := hgf
      have HGI := Lib.hid hgi
      generalize F[k] = f at *
      rcases PF.out with hz | ⟨rb, ro, rfl, hS, hrb, hc⟩
      · omega
      · have hu : Upon (fun g => ¬ K g) w wr := HST.out.less kK.out
        obtain ⟨e1, e2, sv, e3, hsv⟩ := (hc k f hx.out).upon hu (fun _ _ t => t) hrb hS
        obtain ⟨sa, sc, rfl⟩ := hsv.slice
        obtain ⟨W, hW⟩ : ∃ W, wr.alloc (.cells #[.int .i64 f.1, .int .i64 f.2.1, .slice sa f.2.2.length sc] 45) = W := ⟨_, rfl⟩
        have hbW : Below wr.heap.size wr W := by rw [← hW]; exact (Below.refl _ _).alloc (Nat.le_refl _) _
        have rW : rowAt W wr.heap.size 45 [.int .i64 f.1, .int .i64 f.2.1, .slice sa f.2.2.length sc] := by rw [← hW]; exact rowAt.made _ _ _
        have y0 : W.cell? ⟨wr.heap.size, 0, none⟩ = some (.int .i64 f.1) := (rW.cell 0).trans rfl
        have y1 : W.cell? ⟨wr.heap.size, 1, none⟩ = some (.int .i64 f.2.1) := (rW.cell 1).trans rfl
        have y2 : W.cell? ⟨wr.heap.size, 2, none⟩ = some (.slice sa f.2.2.length sc) := (rW.cell 2).trans rfl
        have SW := Lib.hid (Stays.trans HST.out (Stays.of_below hbW))
        have HWW := Lib.hid (HW.out.below hbW)
        have HSV := Lib.hid (hsv.below hbW)
        have RW := Lib.hid (HR.out.below hbW HR.out.lt)
        clear hc hu hsv hgi hbW rW
        go_wp2_with fail
        clear hW e1 e2 e3
        refine (function_any HWW.out (HT.out.stays SW.out kT) f HGI.out _ HSV.out (fun g _ hg => kK.out g (Classical.not_not.1 hg)) kT (by omega) (by omega)).mono ?_
        rintro e w5 ⟨rfl, v5, h5, s5⟩
        have S5 := Lib.hid (Stays.trans SW.out s5)
        have H5 := Lib.hid h5
        have R5 := Lib.hid (RW.out.upon s5 fun hn => hn k2)
        clear s5 h5 y0 y1 y2
        go_wp2_with fail
        go_roundw
        case rel =>
          refine ⟨k + 1, _, _, by go_num, by omega, ?_, Lib.hid ?_, H5, S5, R5⟩
          · simp only [List.length_append]; omega
          · rw [hsn.out, HL.out]; simp only [List.append_assoc]
        case measure => simp [intOf]; omega
    · obtain rfl : k = F.length := by omega
      have HL1 := Lib.hid (show L = headI (F, Q, M) ++ F.flatMap encFn by have := HL.out; rwa [List.take_length] at this)
      have hL1 : L.length ≤ 400000 := by omega
      have q1 : wr.cell? ⟨w.heap.size, 1, none⟩ = some (.slice a2 Q.length c2) := (HR.out.cell 1).trans rfl
      clear HL hL hlt hk x3 r3
      obtain ⟨wo, hwo⟩ : ∃ wo : World, wo = wr := ⟨_, rfl⟩
      subst hwo
      go_wp2_with fail
      clear q1
      go_loopw [39] (fun i wr => ∃ (k : Nat) (v' : Value) (L2 : List Int), i = .int .i64 k ∧ k ≤ Q.length ∧ L2.length ≤ 400000 + 61 * k ∧ Hid (L2 = L ++ (Q.take k).flatMap encStr) ∧ Hid (WrAt K2 wr p v' L2) ∧ Hid (Stays K2 w wr) ∧ Hid (rowAt wr w.heap.size 26 [.slice a1 F.length c1, .slice a2 Q.length c2, .slice a3 M.length c3])) (fun i _ => Q.length - (intOf i).toNat)
      case atStart => exact ⟨0, v', L, rfl, Nat.zero_le _, by omega, Lib.hid (by simp), HW, HST, HR⟩
      case round =>
        obtain ⟨k, v'', L2, rfl, hk, hL2, HL2, HW2, HST2, HR2⟩ := hrel
        by_cases hlt : k < Q.length
        · have hsn := Lib.hid (take_snoc_flat encStr hlt)
          have hx := Lib.hid (List.getElem?_eq_getElem hlt)
          have hqs := HG2.out Q[k] (List.getElem_mem hlt)
          generalize Q[k] = q at *
          rcases PQ.out with hz | ⟨rb, ro, rfl, hS, hrb, hc⟩
          · omega
          · have e0 : wr.cell? ⟨rb, ro + k, none⟩ = some (.string q) := by rw [HST2.out.cell hrb (kK.out rb (Classical.not_not.1 hS))]; exact hc _ _ (by rw [List.getElem?_map, hx.out]; rfl)
            clear hc
            go_wp2_with fail
            refine (number_w HW2.out q.size 1 (by omega) (by omega)).mono ?_
            rintro e w5 ⟨rfl, v5, h5, s5⟩
            have S5 := Lib.hid (Stays.trans HST2.out s5)
            have R5 := Lib.hid (HR2.out.upon s5 fun hn => hn k2)
            obtain ⟨a5, c5, rfl⟩ := owns_slice h5.own
            have g0 : w5.cell? ⟨p, 0, none⟩ = some (.slice a5 (L2 ++ bytesOf q.size 1).length c5) := (h5.root.cell 0).trans rfl
            have H5 := Lib.hid h5
            have HEQ := Lib.hid (show encStr q = bytesOf q.size 1 ++ strI q from rfl)
            have HLN : (L2 ++ bytesOf q.size 1).length ≤ 500000 := by simp only [List.length_append, bytesOf_length]; omega
            have hcat := Lib.hid (show L2 ++ bytesOf q.size 1 ++ strI q = L2 ++ encStr q by rw [HEQ.out]; simp only [List.append_assoc])
            generalize L2 ++ bytesOf q.size 1 = L5 at *
            clear s5 h5 e0
            go_wp2_with (at_builtin; refine wpList_append_str (by rfl) _ _ _ _ (by rfl) 5 i0 under_bytes under_str hi hz0 hz1 hz2 (.slice a5 L5.length c5) L5.length (bytesL L5) (by rfl) H5.out.own q (by rfl) (by omega) ?_; intro v' w6 hown2 hgrow2 hb2; obtain ⟨a6, c6, rfl⟩ := owns_slice hown2; obtain ⟨d0, d1⟩ := H5.out.cell (grown_of hgrow2); have HOW2 := Lib.hid hown2; have HGR2 := Lib.hid hgrow2; have HB2 := Lib.hid hb2; clear hown2 hgrow2 hb2)
            have x := H5.out.put (ys := strI q) (grown_of HGR2.out) (by rw [strI_length, strI_cells]; exact HOW2.out) HB2.out
            rw [hcat.out] at x
            have Y1 := Lib.hid x.1
            have Y2 := Lib.hid x.2
            clear x
            go_wp2
            go_roundw
            case rel =>
              refine ⟨k + 1, _, _, by go_num, by omega, ?_, Lib.hid ?_, Y1, Lib.hid (Stays.trans S5.out Y2.out), Lib.hid (R5.out.upon Y2.out fun hn => hn k2)⟩
              · have := encStr_length hqs; simp only [List.length_append]; omega
              · rw [hsn.out, HL2.out]; simp only [List.append_assoc]
            case measure => simp [intOf]; omega
        · obtain rfl : k = Q.length := by omega
          have HL3 := Lib.hid (show L2 = L ++ Q.flatMap encStr by have := HL2.out; rwa [List.take_length] at this)
          have hL3 : L2.length ≤ 500000 := by omega
          have q2 : wr.cell? ⟨w.heap.size, 2, none⟩ = some (.slice a3 M.length c3) := (HR2.out.cell 2).trans rfl
          clear HL2 hL2 hlt hk
          obtain ⟨wo2, hwo2⟩ : ∃ wo : World, wo = wr := ⟨_, rfl⟩
          subst hwo2
          go_wp2_with fail
          clear q2
          go_loopw [60] (fun i wr => ∃ (k : Nat) (v' : Value) (L3 : List Int), i = .int .i64 k ∧ k ≤ M.length ∧ L3.length ≤ 500000 + 24 * k ∧ Hid (L3 = L2 ++ (M.take k).flatMap encFm) ∧ Hid (WrAt K2 wr p v' L3) ∧ Hid (Stays K2 w wr)) (fun i _ => M.length - (intOf i).toNat)
          case atStart => exact ⟨0, v'', L2, rfl, Nat.zero_le _, by omega, Lib.hid (by simp), HW2, HST2⟩
          case round =>
            obtain ⟨k, v3', L4, rfl, hk, hL4, HL4, HW4, HST4⟩ := hrel
            by_cases hlt : k < M.length
            · have hsn := Lib.hid (take_snoc_flat encFm hlt)
              have hx := Lib.hid (List.getElem?_eq_getElem hlt)
              have hcn := fmG_cons (HG3.out M[k] (List.getElem_mem hlt))
              have hlf := encFm_length hcn
              generalize M[k] = f at *
              rcases PM.out with hz | ⟨rb, ro, rfl, hS, hrb, hc⟩
              · omega
              · have hu : Upon (fun g => ¬ K g) w wr := HST4.out.less kK.out
                obtain ⟨e1, e2, e3, sv, e4, hsv⟩ := (hc k f hx.out).upon hu (fun _ _ t => t) hrb hS
                obtain ⟨sa, sc, rfl⟩ := hsv.slice
                obtain ⟨W, hW⟩ : ∃ W, wr.alloc (.cells #[.int .i64 f.1, .int .i64 f.2.1, .int .i64 f.2.2.1, .slice sa f.2.2.2.length sc] 50) = W := ⟨_, rfl⟩
                have hbW : Below wr.heap.size wr W := by rw [← hW]; exact (Below.refl _ _).alloc (Nat.le_refl _) _
                have rW : rowAt W wr.heap.size 50 [.int .i64 f.1, .int .i64 f.2.1, .int .i64 f.2.2.1, .slice sa f.2.2.2.length sc] := by rw [← hW]; exact rowAt.made _ _ _
                have y0 : W.cell? ⟨wr.heap.size, 0, none⟩ = some (.int .i64 f.1) := (rW.cell 0).trans rfl
                have y1 : W.cell? ⟨wr.heap.size, 1, none⟩ = some (.int .i64 f.2.1) := (rW.cell 1).trans rfl
                have y2 : W.cell? ⟨wr.heap.size, 2, none⟩ = some (.int .i64 f.2.2.1) := (rW.cell 2).trans rfl
                have y3 : W.cell? ⟨wr.heap.size, 3, none⟩ = some (.slice sa f.2.2.2.length sc) := (rW.cell 3).trans rfl
                have SW := Lib.hid (Stays.trans HST4.out (Stays.of_below hbW))
                have HWW := Lib.hid (HW4.out.below hbW)
                have HSV := Lib.hid (hsv.below hbW)
                clear hc hu hsv hbW rW
                go_wp2_with fail
                clear hW e1 e2 e3 e4
                refine (form_any HWW.out f _ HSV.out (fun g _ hg => kK.out g (Classical.not_not.1 hg)) (by omega) (by omega)).mono ?_
                rintro e w5 ⟨rfl, v5, h5, s5⟩
                have S5 := Lib.hid (Stays.trans SW.out s5)
                have H5 := Lib.hid h5
                clear s5 h5 y0 y1 y2 y3
                go_wp2_with fail
                go_roundw
                case rel =>
                  refine ⟨k + 1, _, _, by go_num, by omega, ?_, Lib.hid ?_, H5, S5⟩
                  · simp only [List.length_append]; omega
                  · rw [hsn.out, HL4.out]; simp only [List.append_assoc]
                case measure => simp [intOf]; omega
            · obtain rfl : k = M.length := by omega
              go_wp2
              go_end0
              refine ⟨rfl, v3', ?_, HST4.out.less kK.out⟩
              have e := HL4.out
              rw [List.take_length, HL3.out, HL1.out] at e
              rw [List.nil_append] at *
              rw [EP.out, ← e]
              exact HW4.out.less kK.out
end Go.Proofs.YtabdbciebhmflaaDoor
