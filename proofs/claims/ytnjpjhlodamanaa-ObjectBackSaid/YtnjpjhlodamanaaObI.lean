/-
  Where a heap's objects stand ('places').
  Conditions: as each states.
-/
import Derived.Test.YtnjpjhlodamanaaObH
namespace Go.Proofs.Ytnjpjhlodamanaa
open Go.ChangeShapes Go.WideShapes Go.ChangeAt Go.RowKit
set_option linter.unusedVariables false
set_option linter.unusedSimpArgs false
set_option maxRecDepth 100000

def markedI (first : Int) : Nat → List Bool → List Int
  | _, [] => []
  | i, b :: r => if b then (first + i) :: markedI first (i + 1) r else markedI first (i + 1) r
theorem markedI_snoc (first : Int) : ∀ (l : List Bool) (i : Nat) (b : Bool), markedI first i (l ++ [b]) = markedI first i l ++ if b then [first + ((i + l.length : Nat) : Int)] else []
  | [], i, b => by cases b <;> simp [markedI]
  | c :: l, i, b => by
    have ih := markedI_snoc first l (i + 1) b
    have e : i + 1 + l.length = i + (c :: l).length := by simp only [List.length_cons]; omega
    rw [e] at ih
    simp only [List.cons_append, markedI, ih]
    cases c <;> simp
theorem markedI_length (first : Int) : ∀ (l : List Bool) (i : Nat), (markedI first i l).length ≤ l.length
  | [], _ => Nat.le_refl _
  | b :: r, i => by
    have := markedI_length first r (i + 1)
    unfold markedI
    split <;> simp <;> omega
theorem markedI_false (first : Int) : ∀ (n i : Nat) (r : List Bool), markedI first i (List.replicate n false ++ r) = markedI first (i + n) r
  | 0, i, r => by simp
  | n + 1, i, r => by
    rw [List.replicate_succ, List.cons_append, markedI, if_neg (by decide), markedI_false first n (i + 1) r]
    congr 1
    omega
theorem markedI_marks (first : Int) : ∀ (obs : List Ob) (i : Nat), markedI first i (marks obs) = (starts i obs).map fun (j : Nat) => first + (j : Int)
  | [], _ => rfl
  | o :: os, i => by
    have ih := markedI_marks first os (i + o.words)
    have e : i + 1 + o.long = i + o.words := by unfold Ob.words; omega
    rw [marks, markedI, if_pos rfl, markedI_false, e, ih]
    rfl

theorem info_int' : (Try.prog.info? 3).map (fun i => (i.zero, i.size, i.bytes)) = some (some (.int .i64 0), 1, 8) := by kernel_rfl
theorem under_ints : Try.prog.underlying 58 = some (.slice 3) := by kernel_rfl

theorem places_any (first : Int) (h0 : 0 ≤ first ∧ first ≤ 2000) (aw ah : Option Addr) (c : Nat) (hs : List Bool) (w : World) (hm : Marks w ah hs) :
    Calls Try.prog 43 #[viewV first aw ah hs.length c] w fun e w' =>
      ∃ v, e = .returned v ∧ w'.ownsRow w.heap.size 3 1 v (markedI first 0 hs).length ((markedI first 0 hs).map (Value.int .i64)) ∧ Below w.heap.size w w' := by
  obtain ⟨i0, hi, hz0, hz1, hz2⟩ := info_parts info_int'
  have HM := Lib.hid hm
  have hlen := hm.len
  clear hm
  go_enter Try.func43, Try.ntmps43
  go_wp2
  go_loopw [3, 9] (fun v i wr => ∃ (k : Nat) (ao : Option Addr) (cv : Nat), k ≤ hs.length ∧ i = .int .i64 k ∧ v = .slice ao (markedI first 0 (hs.take k)).length cv ∧ Hid (wr.ownsRow w.heap.size 3 1 v (markedI first 0 (hs.take k)).length ((markedI first 0 (hs.take k)).map (Value.int .i64)) ∧ Below w.heap.size w wr ∧ rowAt wr w.heap.size 73 [.int .i64 first, .slice aw hs.length c, .slice ah hs.length c] ∧ v.ownBlock ≠ some w.heap.size)) (fun _ i _ => hs.length - (intOf i).toNat)
  case atStart => exact ⟨0, none, 0, Nat.zero_le _, rfl, rfl, World.ownsRow_nil _ _ _ _, bl_alloc (Below.refl _ _) _, rowAt.made w _ _, by simp [Value.ownBlock]⟩
  case round =>
    obtain ⟨k, ao, cv, hk, rfl, rfl, HR⟩ := hrel
    by_cases hlt : k < hs.length
    · obtain ⟨g, hg, hc⟩ := HM.out.cells k _ (List.getElem?_eq_getElem hlt)
      subst hg
      have e1 : wr.cell? ⟨g, k, none⟩ = some (.bool hs[k]) := (HR.out.2.1.cell (p := ⟨g, k, none⟩) (World.block_lt_of_cell? w _ hc)).trans hc
      have r0 : wr.cell? ⟨w.heap.size, 0, none⟩ = some (.int .i64 first) := (HR.out.2.2.1.cell 0).trans rfl
      have hsn := markedI_snoc first (hs.take k) 0 hs[k]
      rw [← List.take_succ_eq_append_getElem hlt, List.length_take, Nat.min_eq_left hk, Nat.zero_add] at hsn
      have HSN := Lib.hid hsn
      have hml := markedI_length first (hs.take k) 0
      have hml2 : (hs.take k).length ≤ k := List.length_take_le _ _
      clear hsn hc
      generalize markedI first 0 (hs.take k) = M at *
      cases hb : hs[k] with
      | false =>
        rw [hb] at e1 HSN
        clear hb
        go_wp2
        go_roundw
        case rel =>
          have h := HSN.out
          simp only [Bool.false_eq_true, if_false, List.append_nil] at h
          refine ⟨k + 1, ao, cv, by omega, by go_num, by rw [h], ?_⟩
          show _ ∧ _
          rw [h]
          exact HR.out
        case measure => simp [intOf]; omega
      | true =>
        rw [hb] at e1 HSN
        clear hb
        have HO := Lib.hid HR.out.1
        have hsz := HR.out.2.1.size
        go_wp2_with (at_builtin; refine wpList_append_own _ rfl _ _ _ rfl w.heap.size 3 i0 (.int .i64 0) 1 8 under_ints hi hz0 hz1 hz2 rfl (by decide) _ _ _ rfl (HO.out.alloc _) ⟨wr.heap.size, 0, none⟩ 1 1 [.int .i64 (first + k)] rfl rfl ?q1 ?q2 ?q3 ?q4 ?q5 ?_)
        case q2 => rfl
        case q3 => unfold maxLen; omega
        case q4 => omega
        case q5 => omega
        intro v' w3 hown' hg3 hnil
        have HO3 := Lib.hid hown'
        have HG3 := Lib.hid hg3
        clear hown' hg3 hnil
        go_wp2
        go_roundw
        case rel =>
          have h := HSN.out
          simp only [if_true] at h
          obtain ⟨g3, cap3, hv3⟩ : ∃ g3 cap3, v' = .slice (some ⟨g3, 0, none⟩) (M.length + 1) cap3 := by
            rcases HO3.out.2 with ⟨_, h⟩ | ⟨g3, cap3, _, h, _⟩
            · omega
            · exact ⟨g3, cap3, h⟩
          have hgr : Below w.heap.size w w3 := (bl_alloc HR.out.2.1 _).grown HG3.out (by simp; omega) fun q hq => (HR.out.1.lt q hq).1
          have hrow : rowAt w3 w.heap.size 73 [.int .i64 first, .slice aw hs.length c, .slice (some ⟨g, 0, none⟩) hs.length c] := (HR.out.2.2.1.alloc _).of_heap (HG3.out.block w.heap.size (by have := HR.out.2.2.1.lt; simp; omega) fun e => HR.out.2.2.2 e.symm)
          have hne : (Value.slice (some ⟨g3, 0, none⟩) (M.length + 1) cap3).ownBlock ≠ some w.heap.size := by
            intro e
            have hg3e : g3 = w.heap.size := by simpa [Value.ownBlock] using e
            subst hg3e
            have h1 := HO3.out
            rw [hv3] at h1
            rcases owns_parts h1 with ⟨h2, _⟩ | ⟨g4, cap4, rest4, h2, _, hr4, _⟩
            · cases h2
            · cases h2
              have := hr4.symm.trans hrow
              injection this with this
              injection this with _ ht _
              exact absurd ht (by decide)
          have R : k + 1 ≤ hs.length ∧ Value.int .i64 ((k : Int) + 1) = .int .i64 ((k + 1 : Nat) : Int) ∧ v' = .slice (some ⟨g3, 0, none⟩) (markedI first 0 (hs.take (k + 1))).length cap3 ∧ Hid (w3.ownsRow w.heap.size 3 1 v' (markedI first 0 (hs.take (k + 1))).length ((markedI first 0 (hs.take (k + 1))).map (Value.int .i64)) ∧ Below w.heap.size w w3 ∧ rowAt w3 w.heap.size 73 [.int .i64 first, .slice aw hs.length c, .slice (some ⟨g, 0, none⟩) hs.length c] ∧ v'.ownBlock ≠ some w.heap.size) := by
            refine ⟨by omega, by simp, by rw [hv3, h]; simp, ?_⟩
            show _ ∧ _
            rw [h, List.map_append, List.length_append]
            exact ⟨HO3.out, hgr, hrow, by rw [hv3]; exact hne⟩
          first
            | exact ⟨k + 1, some ⟨g3, 0, none⟩, cap3, R⟩
            | ((repeat apply Exists.intro); exact ⟨⟨k + 1, some ⟨g3, 0, none⟩, cap3, R⟩, rfl⟩)
        case measure => simp [intOf]; omega
    · obtain rfl : k = hs.length := by omega
      have HO := Lib.hid HR.out
      rw [List.take_of_length_le (Nat.le_refl _)] at HO
      go_wp2
      go_ret
      refine ⟨_, rfl, ?_, HO.out.2.1⟩
      show wr.ownsRow _ _ _ (Value.slice ao (markedI first 0 (hs.take hs.length)).length cv) _ _
      rw [List.take_of_length_le (Nat.le_refl hs.length)]
      exact HO.out.1
end Go.Proofs.Ytnjpjhlodamanaa
