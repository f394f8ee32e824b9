/-
  The statements' two arenas with a region of given words ('stockpotrig.Lay').
  Conditions: as each states.
-/
import Derived.Test.YtnjpjhlodamanaaTwo
import Derived.Test.YtnjpjhlodamanaaObV
namespace Go.Proofs.Ytnjpjhlodamanaa
open Go.ChangeShapes Go.WideShapes Go.ChangeAt Go.RowKit
set_option linter.unusedVariables false
set_option linter.unusedSimpArgs false
set_option maxRecDepth 100000

/-- The arena that 'Lay' makes, before its words. -/
def Ar.laid0 (n : Nat) : Ar := ((Ar.new (n + 10)).cut 3).cut (max 1 (n : Int))
def Ar.laid (xs : List Int) : Ar := (Ar.laid0 xs.length).puts 3 0 xs

theorem laid_one (n : Nat) : (Ar.new (n + 10)).has 3 = true ∧ (Ar.new (n + 10)).at 3 = 0 ∧ (Ar.new (n + 10)).cut 3 = { ws := List.replicate (n + 10) 0, rs := [(0, 3)] } := by
  have h1 : (Ar.new (n + 10)).has 3 = true := by
    refine decide_eq_true ⟨by omega, ?_⟩
    show (3 : Int) ≤ ((List.replicate (n + 10) (0 : Int)).length : Int) - ((0 : Nat) : Int)
    rw [List.length_replicate]
    omega
  refine ⟨h1, rfl, ?_⟩
  unfold Ar.cut
  rw [if_pos h1]
  have e : List.take 0 (List.replicate (n + 10) (0 : Int)) ++ List.replicate 3 0 ++ List.drop (0 + 3) (List.replicate (n + 10) 0) = List.replicate (n + 10) 0 := by
    rw [List.take_zero, List.nil_append, List.drop_replicate, List.replicate_append_replicate]
    congr 1
    omega
  show Ar.mk (List.take 0 (List.replicate (n + 10) (0 : Int)) ++ List.replicate 3 0 ++ List.drop (0 + 3) (List.replicate (n + 10) 0)) [(0, 3)] = _
  rw [e]
theorem laid_two (n : Nat) : (Ar.mk (List.replicate (n + 10) 0) [(0, 3)]).has (max 1 (n : Int)) = true ∧ (Ar.mk (List.replicate (n + 10) 0) [(0, 3)]).at (max 1 (n : Int)) = 3 ∧ Ar.laid0 n = { ws := List.replicate (n + 10) 0, rs := [(0, 3), (3, max 1 n)] } := by
  have hr : roomAt (max 1 (n : Int)) [(0, 3)] 0 = (3, 1) := by
    unfold roomAt
    rw [if_neg (by simp; omega)]
    rfl
  have h0 : (Ar.mk (List.replicate (n + 10) 0) [(0, 3)]).at (max 1 (n : Int)) = 3 := by unfold Ar.at; rw [hr]
  have h1 : (Ar.mk (List.replicate (n + 10) 0) [(0, 3)]).has (max 1 (n : Int)) = true := by
    refine decide_eq_true ⟨by omega, ?_⟩
    rw [h0]
    show (max 1 (n : Int)) ≤ ((List.replicate (n + 10) (0 : Int)).length : Int) - ((3 : Nat) : Int)
    rw [List.length_replicate]
    omega
  refine ⟨h1, h0, ?_⟩
  unfold Ar.laid0
  rw [(laid_one n).2.2]
  unfold Ar.cut
  rw [if_pos h1]
  have hi : (Ar.mk (List.replicate (n + 10) 0) [(0, 3)]).idx (max 1 (n : Int)) = 1 := by unfold Ar.idx; rw [hr]
  have e : (max 1 (n : Int)).toNat = max 1 n := by omega
  unfold Ar.cutted
  rw [h0, hi, e]
  have e2 : List.take 3 (List.replicate (n + 10) (0 : Int)) ++ List.replicate (max 1 n) 0 ++ List.drop (3 + max 1 n) (List.replicate (n + 10) 0) = List.replicate (n + 10) 0 := by
    rw [List.take_replicate, List.drop_replicate, List.replicate_append_replicate, List.replicate_append_replicate]
    congr 1
    omega
  show Ar.mk (List.take 3 (List.replicate (n + 10) (0 : Int)) ++ List.replicate (max 1 n) 0 ++ List.drop (3 + max 1 n) (List.replicate (n + 10) 0)) [(0, 3), (3, max 1 n)] = _
  rw [e2]
theorem laid0_find (n : Nat) : (Ar.laid0 n).find 3 = some (max 1 n) := by
  rw [(laid_two n).2.2]
  simp [Ar.find, findR]
theorem puts_find (base : Int) : ∀ (l : List Int) (A : Ar) (q j : Int), (A.puts base q l).find j = A.find j
  | [], _, _, _ => rfl
  | x :: l, A, q, j => by rw [Ar.puts, puts_find base l, Ar.find_set]
theorem puts_inB (base : Int) (l : List Int) (A : Ar) (q k i : Int) : (A.puts base q l).inB k i = A.inB k i := by
  unfold Ar.inB
  rw [puts_find]

theorem laid_tells (n : Nat) : (Ar.new (n + 10)).cutAt 3 = 0 ∧ (Ar.new (n + 10)).has 3 = true ∧ (Ar.new (n + 10)).refAt 3 = 0 ∧ ((Ar.new (n + 10)).cut 3).cutAt (max 1 (n : Int)) = 3 ∧ ((Ar.new (n + 10)).cut 3).has (max 1 (n : Int)) = true ∧ ((Ar.new (n + 10)).cut 3).refAt (max 1 (n : Int)) = 3 := by
  obtain ⟨a1, a2, a3⟩ := laid_one n
  obtain ⟨b1, b2, _⟩ := laid_two n
  rw [a3]
  unfold Ar.cutAt Ar.refAt
  rw [a1, a2, b1, b2]
  exact ⟨rfl, rfl, rfl, rfl, rfl, rfl⟩
theorem fitW_wf' {x : Int} (h : fitW x) : (Lit.int .u64 x).wf = true := by
  obtain ⟨h1, h2⟩ := h
  have : IntKind.u64.wrap x = x := by rw [IntKind.wrap_u64]; omega
  rw [← this]
  exact wf_wrap _ _
/-- What 'Lay' leaves. -/
def LaidT (xs : List Int) (w : World) (e : Ending) (w' : World) : Prop :=
  ∃ p p2 F G, e = .returned (.tuple #[.agg #[.pointer (some ⟨p, 0, none⟩), .pointer (some ⟨p2, 0, none⟩)], .int .i64 3, .bool true]) ∧
    Held w' p F (Ar.laid xs) ∧ RHeld w' p2 G (Ar.laid xs) ∧ (∀ k, F k → ¬ G k) ∧ (∀ k, F k → w.heap.size ≤ k) ∧ (∀ k, G k → w.heap.size ≤ k) ∧ Below w.heap.size w w'

set_option maxHeartbeats 8000000 in
theorem lay_any (w : World) (v : Value) (xs : List Int) (hr : readsAt w v xs.length (wordsL xs)) (hx : ∀ x ∈ xs, fitW x) (hl : xs.length ≤ 10000) :
    Calls Try.prog 4 #[v] w (LaidT xs w) := by
  obtain ⟨a, c, rfl, ha⟩ := hr
  have HA := Lib.hid ha
  have HX := Lib.hid hx
  clear ha hx
  have HT := Lib.hid (laid_tells xs.length)
  go_enter Try.func4, Try.ntmps4
  go_wp2_with fail
  refine (new_h (n := xs.length + 10) (by omega) (by omega)).mono ?_
  rintro e w1 ⟨p, F1, rfl, hF1, s1⟩
  go_wp2_with fail
  refine (rnew_h (n := xs.length + 10) (by omega) (by omega)).mono ?_
  rintro e w2 ⟨p2, G2, rfl, hG2, s2⟩
  have HW : Hid (Two w.heap.size p p2 w.heap.size 27 [.pointer none, .pointer none] (Ar.new (xs.length + 10)) (Ar.new (xs.length + 10)) w2 ∧ Below w.heap.size w w2) := by
    have q1 := s1.upon.size
    have q2 := s2.upon.size
    simp at q1
    have hb1 := s1.below
    have hb2 := s2.below
    refine ⟨⟨F1, G2, hF1.upon s2.upon fun _ _ h => h, hG2, ?_, ?_, ?_, ?_, ?_, ?_⟩, bl_call (bl_call (bl_alloc (Below.refl _ _) _) hb1) hb2⟩
    · exact ((rowAt.made w _ _).below hb1 (by simp)).below hb2 (by omega)
    · intro k hf hg
      have := hF1.lt k hf
      rcases s2.foot k hg with h | h
      · exact h
      · omega
    · intro hf
      rcases s1.foot _ hf with h | h
      · exact h
      · exact absurd h (by simp)
    · intro hg
      rcases s2.foot _ hg with h | h
      · exact h
      · omega
    · intro k hf
      rcases s1.foot _ hf with h | h
      · exact h.elim
      · simp at h; omega
    · intro k hg
      rcases s2.foot _ hg with h | h
      · exact h.elim
      · omega
  clear hF1 s1 hG2 s2
  go_wp2_with fail
  refine (two_cut HW.out.1 HW.out.2.size 3 (by omega)).mono ?_
  rintro e w3 ⟨rfl, h3, b3⟩
  have HW3 : Hid (Two w.heap.size p p2 w.heap.size 27 [.pointer none, .pointer none] ((Ar.new (xs.length + 10)).cut 3) (Ar.new (xs.length + 10)) w3 ∧ Below w.heap.size w w3) := ⟨h3, HW.out.2.trans b3⟩
  rw [HT.out.1, HT.out.2.1]
  clear h3 b3 HW
  go_wp2_with fail
  refine (two_cut HW3.out.1 HW3.out.2.size (max 1 (xs.length : Int)) (by omega)).mono ?_
  rintro e w4 ⟨rfl, h3, b3⟩
  have HW4 : Hid (Two w.heap.size p p2 w.heap.size 27 [.pointer none, .pointer none] (Ar.laid0 xs.length) (Ar.new (xs.length + 10)) w4 ∧ Below w.heap.size w w4) := ⟨h3, HW3.out.2.trans b3⟩
  rw [HT.out.2.2.2.1, HT.out.2.2.2.2.1]
  clear h3 b3 HW3
  go_wp2_with fail
  refine (two_rcut HW4.out.1 HW4.out.2.size 3).mono ?_
  rintro e w5 ⟨rfl, h3, b3⟩
  have HW5 : Hid (Two w.heap.size p p2 w.heap.size 27 [.pointer none, .pointer none] (Ar.laid0 xs.length) ((Ar.new (xs.length + 10)).cut 3) w5 ∧ Below w.heap.size w w5) := ⟨h3, HW4.out.2.trans b3⟩
  rw [HT.out.2.2.1]
  clear h3 b3 HW4
  go_wp2_with fail
  refine (two_rcut HW5.out.1 HW5.out.2.size (max 1 (xs.length : Int))).mono ?_
  rintro e w6 ⟨rfl, h3, b3⟩
  have HW6 : Hid (Two w.heap.size p p2 w.heap.size 27 [.pointer none, .pointer none] (Ar.laid0 xs.length) (Ar.laid0 xs.length) w6 ∧ Below w.heap.size w w6) := ⟨h3, HW5.out.2.trans b3⟩
  rw [HT.out.2.2.2.2.2]
  clear h3 b3 HW5
  go_wp2
  go_loopw [14] (fun i wr => ∃ k : Nat, i = .int .i64 (k : Int) ∧ k ≤ xs.length ∧ Hid (Two w.heap.size p p2 w.heap.size 27 [.pointer none, .pointer none] ((Ar.laid0 xs.length).puts 3 0 (xs.take k)) ((Ar.laid0 xs.length).puts 3 0 (xs.take k)) wr ∧ Below w.heap.size w wr)) (fun i _ => xs.length - (intOf i).toNat)
  case atStart => exact ⟨0, rfl, Nat.zero_le _, HW6.out⟩
  case round =>
    obtain ⟨k, rfl, hk, HR⟩ := hrel
    by_cases hlt : k < xs.length
    · rcases HA.out with h0 | ⟨b, o, rfl, hc⟩
      · omega
      have e0 : w.cell? ⟨b, o + k, none⟩ = some (.int .u64 xs[k]) := hc k _ (by simp [hlt])
      have hb := World.block_lt_of_cell? w _ e0
      have e1 : wr.cell? ⟨b, o + k, none⟩ = some (.int .u64 xs[k]) := (HR.out.2.cell (p := ⟨b, o + k, none⟩) hb).trans e0
      have hfx := HX.out _ (List.getElem_mem hlt)
      have hsn := Ar.puts_snoc 3 xs[k] (xs.take k) (Ar.laid0 xs.length) 0
      rw [← List.take_succ_eq_append_getElem hlt, List.length_take, Nat.min_eq_left hk] at hsn
      have hin : ((Ar.laid0 xs.length).puts 3 0 (xs.take k)).inB 3 (k : Int) = true := by
        rw [puts_inB]
        unfold Ar.inB
        rw [laid0_find]
        exact decide_eq_true (by omega)
      have HSN := Lib.hid hsn
      have HIN := Lib.hid hin
      have HFX := Lib.hid (fitW_wf' hfx)
      have E0 := Lib.hid e0
      clear hc hsn hin hfx
      generalize xs[k] = X at *
      clear e0
      go_wp2_with fail
      refine (two_set HR.out.1 HR.out.2.size 3 (k : Int) X HFX.out).mono ?_
      rintro e w7 ⟨rfl, h3, b3⟩
      have HW7 : Hid (Two w.heap.size p p2 w.heap.size 27 [.pointer none, .pointer none] ((Ar.laid0 xs.length).puts 3 0 (xs.take (k + 1))) ((Ar.laid0 xs.length).puts 3 0 (xs.take k)) w7 ∧ Below w.heap.size w w7) := by
        refine ⟨?_, HR.out.2.trans b3⟩
        rw [HSN.out, Int.zero_add]
        exact h3
      have e7 : w7.cell? ⟨b, o + k, none⟩ = some (.int .u64 X) := (HW7.out.2.cell (p := ⟨b, o + k, none⟩) hb).trans E0.out
      rw [HIN.out]
      clear h3 b3
      go_wp2_with fail
      refine (two_rset HW7.out.1 HW7.out.2.size 3 (k : Int) X HFX.out).mono ?_
      rintro e w8 ⟨rfl, h3, b3⟩
      have HW8 : Hid (Two w.heap.size p p2 w.heap.size 27 [.pointer none, .pointer none] ((Ar.laid0 xs.length).puts 3 0 (xs.take (k + 1))) ((Ar.laid0 xs.length).puts 3 0 (xs.take (k + 1))) w8 ∧ Below w.heap.size w w8) := by
        refine ⟨?_, HW7.out.2.trans b3⟩
        rw [HSN.out, Int.zero_add]
        rw [HSN.out, Int.zero_add] at h3
        exact h3
      clear h3 b3
      go_wp2
      go_roundw
      case rel => exact ⟨k + 1, by simp, by omega, HW8.out⟩
      case measure => simp [intOf]; omega
    · obtain rfl : k = xs.length := by omega
      obtain ⟨F, G, h9⟩ := HR.out.1
      have H9 := Lib.hid h9
      have z0 := h9.row.cell 0
      have z1 := h9.row.cell 1
      have f0 := h9.row.free 0
      have f1 := h9.row.free 1
      simp only [List.getElem?_cons_zero, List.getElem?_cons_succ] at z0 z1
      have hlt9 := h9.row.lt
      clear h9 hlt
      go_wp2
      have hup := (Upon.setCell (S := fun q => q = w.heap.size) (w := wr) ⟨w.heap.size, 0, none⟩ (.pointer (some ⟨p, 0, none⟩)) rfl).trans (Upon.setCell (S := fun q => q = w.heap.size) ⟨w.heap.size, 1, none⟩ (.pointer (some ⟨p2, 0, none⟩)) rfl) (fun _ _ h => h)
      have e9 : (Ar.laid0 xs.length).puts 3 0 (xs.take xs.length) = Ar.laid xs := by rw [List.take_of_length_le (Nat.le_refl _)]; rfl
      refine bodyPost_ret (v := .tuple #[.agg #[.pointer (some ⟨p, 0, none⟩), .pointer (some ⟨p2, 0, none⟩)], .int .i64 3, .bool true]) (by simp [results, Try.results4, go_sem, z0, z1, hlt9]) rfl ⟨p, p2, F, G, rfl, ?_, ?_, H9.out.apart, H9.out.lowF, H9.out.lowG, ?_⟩
      · rw [← e9]
        exact H9.out.one.upon hup fun q hq e => H9.out.nf (e ▸ hq)
      · rw [← e9]
        exact H9.out.two.upon hup fun q hq e => H9.out.ng (e ▸ hq)
      · repeat (first | exact HR.out.2 | refine bl_set ?_ (by simp) _)
end Go.Proofs.Ytnjpjhlodamanaa
