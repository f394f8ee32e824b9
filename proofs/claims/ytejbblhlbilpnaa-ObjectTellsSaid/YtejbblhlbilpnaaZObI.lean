/-
  A heap as it was looked at ('view'): which words point to its objects ('find', 'mayHold'), where they stand ('places').
  Conditions: as each states.
-/
import Derived.Test.YtejbblhlbilpnaaZObE
namespace Go.Proofs.Ytejbblhlbilpnaa
open Go.ChangeShapes Go.WideShapes Go.ChangeAt Go.RowKit
set_option linter.unusedVariables false
set_option linter.unusedSimpArgs false
set_option maxRecDepth 100000

abbrev bools (hs : List Bool) : List Value := hs.map Value.bool
abbrev viewV (first : Int) (aw ah : Option Addr) (n c : Nat) : Value := .agg #[.int .i64 first, .slice aw n c, .slice ah n c]
/-- The marks of a view lie in memory. -/
structure Marks (w : World) (ah : Option Addr) (hs : List Bool) : Prop where
  cells : ∀ i b, hs[i]? = some b → ∃ g, ah = some ⟨g, 0, none⟩ ∧ w.cell? ⟨g, i, none⟩ = some (.bool b)
  len : hs.length ≤ 2000
theorem Marks.below {w w' : World} {ah : Option Addr} {hs : List Bool} (h : Marks w ah hs) (hb : Below w.heap.size w w') : Marks w' ah hs :=
  ⟨fun i b hi => by
    obtain ⟨g, e, hc⟩ := h.cells i b hi
    exact ⟨g, e, (hb.cell (p := ⟨g, i, none⟩) (World.block_lt_of_cell? w _ hc)).trans hc⟩, h.len⟩
theorem Marks.row {w : World} {g : Nat} {hs : List Bool} (h : rowAt w g 4 (bools hs)) (hl : hs.length ≤ 2000) : Marks w (some ⟨g, 0, none⟩) hs :=
  ⟨fun i b hi => ⟨g, rfl, by rw [h.cell, List.getElem?_map, hi]; rfl⟩, hl⟩
theorem Marks.none (w : World) : Marks w none [] := ⟨(fun i b hi => by cases hi), Nat.zero_le _⟩

def findI (first : Int) (hs : List Bool) (x : Int) : Option Nat := if wOk x && decide (first ≤ wAt x) && hs.getD (wAt x - first).toNat false then some (wAt x - first).toNat else none
def findV (r : Option Nat) : Value := match r with
  | some i => .tuple #[.int .i64 (i : Int), .bool true]
  | none => .tuple #[.int .i64 0, .bool false]

theorem wAt_bounds (x : Int) (h : 0 ≤ x) : 0 ≤ wAt x ∧ wAt x ≤ 4294967295 := by
  unfold wAt
  split <;> omega

theorem find_any (first : Int) (h0 : 0 ≤ first ∧ first ≤ 2000) (aw ah : Option Addr) (c : Nat) (hs : List Bool) (x : Int) (hx : fitW x) (w : World) (hm : Marks w ah hs) :
    Calls Try.prog 43 #[viewV first aw ah hs.length c, .int .u64 x] w fun e w' => e = .returned (findV (findI first hs x)) ∧ Below w.heap.size w w' := by
  have HX := Lib.hid (at_any x hx.1 (by have := hx.2; omega))
  have hwb := wAt_bounds x hx.1
  have hlen := hm.len
  clear hx
  cases hok : wOk x with
  | false =>
    have hf : findI first hs x = none := by simp [findI, hok]
    rw [hf]
    clear hf hm
    generalize wAt x = A at *
    go_enter Try.func43, Try.ntmps43
    go_wp2_with fail
    refine (HX.out _).mono ?_
    rintro e w1 ⟨rfl, rfl⟩
    rw [hok]
    clear HX hok
    go_wp2
    go_ret2
    exact ⟨rfl, bl_alloc (Below.refl _ _) _⟩
  | true =>
    rw [hok] at HX
    by_cases h1 : wAt x < first
    · have hf : findI first hs x = none := by
        unfold findI
        rw [decide_eq_false (by omega)]
        simp
      rw [hf]
      clear hf hm hok
      generalize wAt x = A at *
      have h2 : A - first < 0 := by omega
      go_enter Try.func43, Try.ntmps43
      go_wp2_with fail
      refine (HX.out _).mono ?_
      rintro e w1 ⟨rfl, rfl⟩
      go_wp2
      go_ret2
      exact ⟨rfl, bl_alloc (Below.refl _ _) _⟩
    · obtain ⟨i, hi⟩ : ∃ i : Nat, (i : Int) = wAt x - first := ⟨(wAt x - first).toNat, by omega⟩
      have hfi : findI first hs x = if hs.getD i false then some i else none := by
        unfold findI
        rw [hok, decide_eq_true (by omega), ← hi]
        simp
      rw [hfi]
      clear hfi hok
      have HI := Lib.hid hi
      have hA : wAt x = first + i := by omega
      rw [hA] at HX hwb
      clear hi hA h1
      by_cases hlt : i < hs.length
      · obtain ⟨g, hg, hc⟩ := hm.cells i _ (List.getElem?_eq_getElem hlt)
        have hgd : hs.getD i false = hs[i] := by rw [List.getD_eq_getElem?_getD, List.getElem?_eq_getElem hlt]; rfl
        subst hg
        rw [hgd]
        clear hgd hm
        have hb : g < w.heap.size := World.block_lt_of_cell? w _ hc
        have q1 : first + (i : Int) - first = i := by omega
        have q2 : ¬ ((i : Int) < 0) := by omega
        have Q1 := Lib.hid q1
        clear q1
        cases hv : hs[i] with
        | true =>
          rw [hv] at hc
          clear hv
          go_enter Try.func43, Try.ntmps43
          go_wp2_with fail
          refine (HX.out _).mono ?_
          rintro e w1 ⟨rfl, rfl⟩
          have q1 := Q1.out
          go_wp2
          go_ret2
          exact ⟨rfl, bl_alloc (Below.refl _ _) _⟩
        | false =>
          rw [hv] at hc
          clear hv
          go_enter Try.func43, Try.ntmps43
          go_wp2_with fail
          refine (HX.out _).mono ?_
          rintro e w1 ⟨rfl, rfl⟩
          have q1 := Q1.out
          go_wp2
          go_ret2
          exact ⟨rfl, bl_alloc (Below.refl _ _) _⟩
      · have hgd : hs.getD i false = false := by rw [List.getD_eq_getElem?_getD, List.getElem?_eq_none (by omega)]; rfl
        rw [hgd]
        clear hgd hm
        have hge : hs.length ≤ i := by omega
        have q1 : first + (i : Int) - first = i := by omega
        have Q1 := Lib.hid q1
        clear q1 hlt
        go_enter Try.func43, Try.ntmps43
        go_wp2_with fail
        refine (HX.out _).mono ?_
        rintro e w1 ⟨rfl, rfl⟩
        have q1 := Q1.out
        go_wp2
        go_ret2
        exact ⟨rfl, bl_alloc (Below.refl _ _) _⟩

def fieldB (first : Int) (hs : List Bool) (x : Int) : Bool := (findI first hs x).isSome || wIs x

theorem mayHold_any (first : Int) (h0 : 0 ≤ first ∧ first ≤ 2000) (aw ah : Option Addr) (c : Nat) (hs : List Bool) (v : Value) (xs : List Int) (hx : ∀ x ∈ xs, fitW x) (hl : xs.length ≤ 100000) (w : World) (hm : Marks w ah hs) (hv : readsAt w v xs.length (wordsL xs)) :
    Calls Try.prog 53 #[viewV first aw ah hs.length c, v] w fun e w' => e = .returned (.bool (xs.all (fieldB first hs))) ∧ Below w.heap.size w w' := by
  obtain ⟨a, c2, rfl, ha⟩ := hv
  have HM := Lib.hid hm
  have HX := Lib.hid hx
  have HA := Lib.hid ha
  clear hm hx ha
  go_enter Try.func53, Try.ntmps53
  go_wp2
  go_loopw [11] (fun i wr => ∃ k : Nat, k ≤ xs.length ∧ i = .int .i64 k ∧ Hid ((xs.take k).all (fieldB first hs) = true ∧ Below w.heap.size w wr ∧ rowAt wr w.heap.size 96 [.int .i64 first, .slice aw hs.length c, .slice ah hs.length c])) (fun i _ => xs.length - (intOf i).toNat)
  case atStart => exact ⟨0, Nat.zero_le _, rfl, rfl, bl_alloc (Below.refl _ _) _, rowAt.made w _ _⟩
  case round =>
    obtain ⟨k, hk, rfl, HR⟩ := hrel
    by_cases hlt : k < xs.length
    · rcases HA.out with h0' | ⟨b, o, rfl, hc⟩
      · omega
      have e0 : w.cell? ⟨b, o + k, none⟩ = some (.int .u64 xs[k]) := hc k _ (by simp [hlt])
      have e1 : wr.cell? ⟨b, o + k, none⟩ = some (.int .u64 xs[k]) := (HR.out.2.1.cell (p := ⟨b, o + k, none⟩) (World.block_lt_of_cell? w _ e0)).trans e0
      have r0 : wr.cell? ⟨w.heap.size, 0, none⟩ = some (.int .i64 first) := (HR.out.2.2.cell 0).trans rfl
      have r1 : wr.cell? ⟨w.heap.size, 1, none⟩ = some (.slice aw hs.length c) := (HR.out.2.2.cell 1).trans rfl
      have r2 : wr.cell? ⟨w.heap.size, 2, none⟩ = some (.slice ah hs.length c) := (HR.out.2.2.cell 2).trans rfl
      have HXK := Lib.hid (HX.out _ (List.getElem_mem hlt))
      have hall : (xs.take (k + 1)).all (fieldB first hs) = fieldB first hs xs[k] := by
        rw [List.take_succ_eq_append_getElem hlt, List.all_append, HR.out.1]
        simp
      have hall2 : fieldB first hs xs[k] = false → xs.all (fieldB first hs) = false := by
        intro hf
        rw [List.all_eq_false]
        exact ⟨xs[k], List.getElem_mem hlt, by rw [hf]; decide⟩
      have HALL := Lib.hid hall
      have HALL2 := Lib.hid hall2
      clear e0 hc hall hall2
      generalize xs[k] = X at *
      have hwl : w.heap.size < wr.heap.size := by have := HR.out.2.2.lt; exact this
      go_wp2_with fail
      refine (find_any first h0 aw ah c hs X HXK.out _ (HM.out.below HR.out.2.1)).mono ?_
      rintro e w1 ⟨rfl, b1⟩
      have hsz1 := b1.size
      have hrow1 := HR.out.2.2.below b1 hwl
      cases hfi : findI first hs X with
      | some i =>
        have hfb : fieldB first hs X = true := by simp [fieldB, hfi]
        rw [hfb] at HALL
        simp only [findV]
        have HW := Lib.hid (bl_call HR.out.2.1 b1)
        have HROW := Lib.hid hrow1
        clear hfi hfb HALL2 hrow1 b1
        go_wp2
        go_roundw
        case rel => exact ⟨k + 1, by omega, by go_num, HALL.out, HW.out, HROW.out⟩
        case measure => simp [intOf]; omega
      | none =>
        have hfb : fieldB first hs X = wIs X := by simp [fieldB, hfi]
        rw [hfb] at HALL HALL2
        simp only [findV]
        have HW := Lib.hid (bl_call HR.out.2.1 b1)
        have HROW := Lib.hid hrow1
        clear hfi hfb hrow1 b1
        go_wp2_with fail
        refine (is_any X HXK.out.1 (by have := HXK.out.2; omega) _).mono ?_
        rintro e w2 ⟨rfl, rfl⟩
        cases hi : wIs X with
        | true =>
          rw [hi] at HALL
          clear hi HALL2
          go_wp2
          go_roundw
          case rel => exact ⟨k + 1, by omega, by go_num, HALL.out, HW.out, HROW.out⟩
          case measure => simp [intOf]; omega
        | false =>
          have HF := Lib.hid (HALL2.out hi)
          clear hi HALL2 HALL
          go_wp2
          go_ret
          exact ⟨ret_bool HF.out.symm, HW.out⟩
    · obtain rfl : k = xs.length := by omega
      have HF := Lib.hid HR.out.1
      rw [List.take_of_length_le (Nat.le_refl _)] at HF
      clear hlt
      go_wp2
      go_ret
      exact ⟨ret_bool HF.out.symm, HR.out.2.1⟩
end Go.Proofs.Ytejbblhlbilpnaa

/-
  Where a heap's objects stand ('places').
  Conditions: as each states.
-/
namespace Go.Proofs.Ytejbblhlbilpnaa
open Go.ChangeShapes Go.WideShapes Go.ChangeAt Go.RowKit
set_option maxRecDepth 100000

def markedI (first : Int) : Nat → List Bool → List Int
  | _, [] => []
  | i, b :: r => if b then (first + i) :: markedI first (i + 1) r else markedI first (i + 1) r
theorem markedI_snoc (first : Int) : ∀ (l : List Bool) (i : Nat) (b : Bool), markedI first i (l ++ [b]) = markedI first i l ++ if b then [first + ((i + l.length : Nat) : Int)] else []
  | [], i, b => by cases b <;> simp [markedI]
  | c :: l, i, b => by
    have ih := markedI_snoc first l (i + 1) b
    have e : i + 1 + l.length = i + (c :: l).length := by simp only [List.length_cons]; omega
    rw [e] at ih
    simp only [List.cons_append, markedI, ih]
    cases c <;> simp
theorem markedI_length (first : Int) : ∀ (l : List Bool) (i : Nat), (markedI first i l).length ≤ l.length
  | [], _ => Nat.le_refl _
  | b :: r, i => by
    have := markedI_length first r (i + 1)
    unfold markedI
    split <;> simp <;> omega
theorem markedI_false (first : Int) : ∀ (n i : Nat) (r : List Bool), markedI first i (List.replicate n false ++ r) = markedI first (i + n) r
  | 0, i, r => by simp
  | n + 1, i, r => by
    rw [List.replicate_succ, List.cons_append, markedI, if_neg (by decide), markedI_false first n (i + 1) r]
    congr 1
    omega
theorem markedI_marks (first : Int) : ∀ (obs : List Ob) (i : Nat), markedI first i (marks obs) = (starts i obs).map fun (j : Nat) => first + (j : Int)
  | [], _ => rfl
  | o :: os, i => by
    have ih := markedI_marks first os (i + o.words)
    have e : i + 1 + o.long = i + o.words := by unfold Ob.words; omega
    rw [marks, markedI, if_pos rfl, markedI_false, e, ih]
    rfl

theorem info_int' : (Try.prog.info? 3).map (fun i => (i.zero, i.size, i.bytes)) = some (some (.int .i64 0), 1, 8) := by kernel_rfl
theorem under_ints : Try.prog.underlying 47 = some (.slice 3) := by kernel_rfl

theorem places_any (first : Int) (h0 : 0 ≤ first ∧ first ≤ 2000) (aw ah : Option Addr) (c : Nat) (hs : List Bool) (w : World) (hm : Marks w ah hs) :
    Calls Try.prog 49 #[viewV first aw ah hs.length c] w fun e w' =>
      ∃ v, e = .returned v ∧ w'.ownsRow w.heap.size 3 1 v (markedI first 0 hs).length ((markedI first 0 hs).map (Value.int .i64)) ∧ Below w.heap.size w w' := by
  obtain ⟨i0, hi, hz0, hz1, hz2⟩ := info_parts info_int'
  have HM := Lib.hid hm
  have hlen := hm.len
  clear hm
  go_enter Try.func49, Try.ntmps49
  go_wp2
  go_loopw [3, 9] (fun v i wr => ∃ (k : Nat) (ao : Option Addr) (cv : Nat), k ≤ hs.length ∧ i = .int .i64 k ∧ v = .slice ao (markedI first 0 (hs.take k)).length cv ∧ Hid (wr.ownsRow w.heap.size 3 1 v (markedI first 0 (hs.take k)).length ((markedI first 0 (hs.take k)).map (Value.int .i64)) ∧ Below w.heap.size w wr ∧ rowAt wr w.heap.size 96 [.int .i64 first, .slice aw hs.length c, .slice ah hs.length c] ∧ v.ownBlock ≠ some w.heap.size)) (fun _ i _ => hs.length - (intOf i).toNat)
  case atStart => exact ⟨0, none, 0, Nat.zero_le _, rfl, rfl, World.ownsRow_nil _ _ _ _, bl_alloc (Below.refl _ _) _, rowAt.made w _ _, by simp [Value.ownBlock]⟩
  case round =>
    obtain ⟨k, ao, cv, hk, rfl, rfl, HR⟩ := hrel
    by_cases hlt : k < hs.length
    · obtain ⟨g, hg, hc⟩ := HM.out.cells k _ (List.getElem?_eq_getElem hlt)
      subst hg
      have e1 : wr.cell? ⟨g, k, none⟩ = some (.bool hs[k]) := (HR.out.2.1.cell (p := ⟨g, k, none⟩) (World.block_lt_of_cell? w _ hc)).trans hc
      have r0 : wr.cell? ⟨w.heap.size, 0, none⟩ = some (.int .i64 first) := (HR.out.2.2.1.cell 0).trans rfl
      have hsn := markedI_snoc first (hs.take k) 0 hs[k]
      rw [← List.take_succ_eq_append_getElem hlt, List.length_take, Nat.min_eq_left hk, Nat.zero_add] at hsn
      have HSN := Lib.hid hsn
      have hml := markedI_length first (hs.take k) 0
      have hml2 : (hs.take k).length ≤ k := List.length_take_le _ _
      clear hsn hc
      generalize markedI first 0 (hs.take k) = M at *
      cases hb : hs[k] with
      | false =>
        rw [hb] at e1 HSN
        clear hb
        go_wp2
        go_roundw
        case rel =>
          have h := HSN.out
          simp only [Bool.false_eq_true, if_false, List.append_nil] at h
          refine ⟨k + 1, ao, cv, by omega, by go_num, by rw [h], ?_⟩
          show _ ∧ _
          rw [h]
          exact HR.out
        case measure => simp [intOf]; omega
      | true =>
        rw [hb] at e1 HSN
        clear hb
        have HO := Lib.hid HR.out.1
        have hsz := HR.out.2.1.size
        go_wp2_with (at_builtin; refine wpList_append_own _ rfl _ _ _ rfl w.heap.size 3 i0 (.int .i64 0) 1 8 under_ints hi hz0 hz1 hz2 rfl (by decide) _ _ _ rfl (HO.out.alloc _) ⟨wr.heap.size, 0, none⟩ 1 1 [.int .i64 (first + k)] rfl rfl ?q1 ?q2 ?q3 ?q4 ?q5 ?_)
        case q2 => rfl
        case q3 => unfold maxLen; omega
        case q4 => omega
        case q5 => omega
        intro v' w3 hown' hg3 hnil
        have HO3 := Lib.hid hown'
        have HG3 := Lib.hid hg3
        clear hown' hg3 hnil
        go_wp2
        go_roundw
        case rel =>
          have h := HSN.out
          simp only [if_true] at h
          obtain ⟨g3, cap3, hv3⟩ : ∃ g3 cap3, v' = .slice (some ⟨g3, 0, none⟩) (M.length + 1) cap3 := by
            rcases HO3.out.2 with ⟨_, h⟩ | ⟨g3, cap3, _, h, _⟩
            · omega
            · exact ⟨g3, cap3, h⟩
          have hgr : Below w.heap.size w w3 := (bl_alloc HR.out.2.1 _).grown HG3.out (by simp; omega) fun q hq => (HR.out.1.lt q hq).1
          have hrow : rowAt w3 w.heap.size 96 [.int .i64 first, .slice aw hs.length c, .slice (some ⟨g, 0, none⟩) hs.length c] := (HR.out.2.2.1.alloc _).of_heap (HG3.out.block w.heap.size (by have := HR.out.2.2.1.lt; simp; omega) fun e => HR.out.2.2.2 e.symm)
          have hne : (Value.slice (some ⟨g3, 0, none⟩) (M.length + 1) cap3).ownBlock ≠ some w.heap.size := by
            intro e
            have hg3e : g3 = w.heap.size := by simpa [Value.ownBlock] using e
            subst hg3e
            have h1 := HO3.out
            rw [hv3] at h1
            rcases owns_parts h1 with ⟨h2, _⟩ | ⟨g4, cap4, rest4, h2, _, hr4, _⟩
            · cases h2
            · cases h2
              have := hr4.symm.trans hrow
              injection this with this
              injection this with _ ht _
              exact absurd ht (by decide)
          have R : k + 1 ≤ hs.length ∧ Value.int .i64 ((k : Int) + 1) = .int .i64 ((k + 1 : Nat) : Int) ∧ v' = .slice (some ⟨g3, 0, none⟩) (markedI first 0 (hs.take (k + 1))).length cap3 ∧ Hid (w3.ownsRow w.heap.size 3 1 v' (markedI first 0 (hs.take (k + 1))).length ((markedI first 0 (hs.take (k + 1))).map (Value.int .i64)) ∧ Below w.heap.size w w3 ∧ rowAt w3 w.heap.size 96 [.int .i64 first, .slice aw hs.length c, .slice (some ⟨g, 0, none⟩) hs.length c] ∧ v'.ownBlock ≠ some w.heap.size) := by
            refine ⟨by omega, by simp, by rw [hv3, h]; simp, ?_⟩
            show _ ∧ _
            rw [h, List.map_append, List.length_append]
            exact ⟨HO3.out, hgr, hrow, by rw [hv3]; exact hne⟩
          first
            | exact ⟨k + 1, some ⟨g3, 0, none⟩, cap3, R⟩
            | ((repeat apply Exists.intro); exact ⟨⟨k + 1, some ⟨g3, 0, none⟩, cap3, R⟩, rfl⟩)
        case measure => simp [intOf]; omega
    · obtain rfl : k = hs.length := by omega
      have HO := Lib.hid HR.out
      rw [List.take_of_length_le (Nat.le_refl _)] at HO
      go_wp2
      go_ret
      refine ⟨_, rfl, ?_, HO.out.2.1⟩
      show wr.ownsRow _ _ _ (Value.slice ao (markedI first 0 (hs.take hs.length)).length cv) _ _
      rw [List.take_of_length_le (Nat.le_refl hs.length)]
      exact HO.out.1
end Go.Proofs.Ytejbblhlbilpnaa
