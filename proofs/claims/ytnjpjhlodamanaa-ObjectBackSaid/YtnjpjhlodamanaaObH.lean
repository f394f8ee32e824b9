/-
  A heap as it was looked at ('view'): which words point to its objects ('find', 'mayHold'), where they stand ('places').
  Conditions: as each states.
-/
import Derived.Test.YtnjpjhlodamanaaObE
namespace Go.Proofs.Ytnjpjhlodamanaa
open Go.ChangeShapes Go.WideShapes Go.ChangeAt Go.RowKit
set_option linter.unusedVariables false
set_option linter.unusedSimpArgs false
set_option maxRecDepth 100000

abbrev bools (hs : List Bool) : List Value := hs.map Value.bool
abbrev viewV (first : Int) (aw ah : Option Addr) (n c : Nat) : Value := .agg #[.int .i64 first, .slice aw n c, .slice ah n c]
/-- The marks of a view lie in memory. -/
structure Marks (w : World) (ah : Option Addr) (hs : List Bool) : Prop where
  cells : ∀ i b, hs[i]? = some b → ∃ g, ah = some ⟨g, 0, none⟩ ∧ w.cell? ⟨g, i, none⟩ = some (.bool b)
  len : hs.length ≤ 2000
theorem Marks.below {w w' : World} {ah : Option Addr} {hs : List Bool} (h : Marks w ah hs) (hb : Below w.heap.size w w') : Marks w' ah hs :=
  ⟨fun i b hi => by
    obtain ⟨g, e, hc⟩ := h.cells i b hi
    exact ⟨g, e, (hb.cell (p := ⟨g, i, none⟩) (World.block_lt_of_cell? w _ hc)).trans hc⟩, h.len⟩
theorem Marks.row {w : World} {g : Nat} {hs : List Bool} (h : rowAt w g 4 (bools hs)) (hl : hs.length ≤ 2000) : Marks w (some ⟨g, 0, none⟩) hs :=
  ⟨fun i b hi => ⟨g, rfl, by rw [h.cell, List.getElem?_map, hi]; rfl⟩, hl⟩
theorem Marks.none (w : World) : Marks w none [] := ⟨(fun i b hi => by cases hi), Nat.zero_le _⟩

def findI (first : Int) (hs : List Bool) (x : Int) : Option Nat := if wOk x && decide (first ≤ wAt x) && hs.getD (wAt x - first).toNat false then some (wAt x - first).toNat else none
def findV (r : Option Nat) : Value := match r with
  | some i => .tuple #[.int .i64 (i : Int), .bool true]
  | none => .tuple #[.int .i64 0, .bool false]

theorem wAt_bounds (x : Int) (h : 0 ≤ x) : 0 ≤ wAt x ∧ wAt x ≤ 4294967295 := by
  unfold wAt
  split <;> omega

theorem find_any (first : Int) (h0 : 0 ≤ first ∧ first ≤ 2000) (aw ah : Option Addr) (c : Nat) (hs : List Bool) (x : Int) (hx : fitW x) (w : World) (hm : Marks w ah hs) :
    Calls Try.prog 35 #[viewV first aw ah hs.length c, .int .u64 x] w fun e w' => e = .returned (findV (findI first hs x)) ∧ Below w.heap.size w w' := by
  have HX := Lib.hid (at_any x hx.1 (by have := hx.2; omega))
  have hwb := wAt_bounds x hx.1
  have hlen := hm.len
  clear hx
  cases hok : wOk x with
  | false =>
    have hf : findI first hs x = none := by simp [findI, hok]
    rw [hf]
    clear hf hm
    generalize wAt x = A at *
    go_enter Try.func35, Try.ntmps35
    go_wp2_with fail
    refine (HX.out _).mono ?_
    rintro e w1 ⟨rfl, rfl⟩
    rw [hok]
    clear HX hok
    go_wp2
    go_ret2
    exact ⟨rfl, bl_alloc (Below.refl _ _) _⟩
  | true =>
    rw [hok] at HX
    by_cases h1 : wAt x < first
    · have hf : findI first hs x = none := by
        unfold findI
        rw [decide_eq_false (by omega)]
        simp
      rw [hf]
      clear hf hm hok
      generalize wAt x = A at *
      have h2 : A - first < 0 := by omega
      go_enter Try.func35, Try.ntmps35
      go_wp2_with fail
      refine (HX.out _).mono ?_
      rintro e w1 ⟨rfl, rfl⟩
      go_wp2
      go_ret2
      exact ⟨rfl, bl_alloc (Below.refl _ _) _⟩
    · obtain ⟨i, hi⟩ : ∃ i : Nat, (i : Int) = wAt x - first := ⟨(wAt x - first).toNat, by omega⟩
      have hfi : findI first hs x = if hs.getD i false then some i else none := by
        unfold findI
        rw [hok, decide_eq_true (by omega), ← hi]
        simp
      rw [hfi]
      clear hfi hok
      have HI := Lib.hid hi
      have hA : wAt x = first + i := by omega
      rw [hA] at HX hwb
      clear hi hA h1
      by_cases hlt : i < hs.length
      · obtain ⟨g, hg, hc⟩ := hm.cells i _ (List.getElem?_eq_getElem hlt)
        have hgd : hs.getD i false = hs[i] := by rw [List.getD_eq_getElem?_getD, List.getElem?_eq_getElem hlt]; rfl
        subst hg
        rw [hgd]
        clear hgd hm
        have hb : g < w.heap.size := World.block_lt_of_cell? w _ hc
        have q1 : first + (i : Int) - first = i := by omega
        have q2 : ¬ ((i : Int) < 0) := by omega
        have Q1 := Lib.hid q1
        clear q1
        cases hv : hs[i] with
        | true =>
          rw [hv] at hc
          clear hv
          go_enter Try.func35, Try.ntmps35
          go_wp2_with fail
          refine (HX.out _).mono ?_
          rintro e w1 ⟨rfl, rfl⟩
          have q1 := Q1.out
          go_wp2
          go_ret2
          exact ⟨rfl, bl_alloc (Below.refl _ _) _⟩
        | false =>
          rw [hv] at hc
          clear hv
          go_enter Try.func35, Try.ntmps35
          go_wp2_with fail
          refine (HX.out _).mono ?_
          rintro e w1 ⟨rfl, rfl⟩
          have q1 := Q1.out
          go_wp2
          go_ret2
          exact ⟨rfl, bl_alloc (Below.refl _ _) _⟩
      · have hgd : hs.getD i false = false := by rw [List.getD_eq_getElem?_getD, List.getElem?_eq_none (by omega)]; rfl
        rw [hgd]
        clear hgd hm
        have hge : hs.length ≤ i := by omega
        have q1 : first + (i : Int) - first = i := by omega
        have Q1 := Lib.hid q1
        clear q1 hlt
        go_enter Try.func35, Try.ntmps35
        go_wp2_with fail
        refine (HX.out _).mono ?_
        rintro e w1 ⟨rfl, rfl⟩
        have q1 := Q1.out
        go_wp2
        go_ret2
        exact ⟨rfl, bl_alloc (Below.refl _ _) _⟩

def fieldB (first : Int) (hs : List Bool) (x : Int) : Bool := (findI first hs x).isSome || wIs x

theorem mayHold_any (first : Int) (h0 : 0 ≤ first ∧ first ≤ 2000) (aw ah : Option Addr) (c : Nat) (hs : List Bool) (v : Value) (xs : List Int) (hx : ∀ x ∈ xs, fitW x) (hl : xs.length ≤ 100000) (w : World) (hm : Marks w ah hs) (hv : readsAt w v xs.length (wordsL xs)) :
    Calls Try.prog 30 #[viewV first aw ah hs.length c, v] w fun e w' => e = .returned (.bool (xs.all (fieldB first hs))) ∧ Below w.heap.size w w' := by
  obtain ⟨a, c2, rfl, ha⟩ := hv
  have HM := Lib.hid hm
  have HX := Lib.hid hx
  have HA := Lib.hid ha
  clear hm hx ha
  go_enter Try.func30, Try.ntmps30
  go_wp2
  go_loopw [11] (fun i wr => ∃ k : Nat, k ≤ xs.length ∧ i = .int .i64 k ∧ Hid ((xs.take k).all (fieldB first hs) = true ∧ Below w.heap.size w wr ∧ rowAt wr w.heap.size 73 [.int .i64 first, .slice aw hs.length c, .slice ah hs.length c])) (fun i _ => xs.length - (intOf i).toNat)
  case atStart => exact ⟨0, Nat.zero_le _, rfl, rfl, bl_alloc (Below.refl _ _) _, rowAt.made w _ _⟩
  case round =>
    obtain ⟨k, hk, rfl, HR⟩ := hrel
    by_cases hlt : k < xs.length
    · rcases HA.out with h0' | ⟨b, o, rfl, hc⟩
      · omega
      have e0 : w.cell? ⟨b, o + k, none⟩ = some (.int .u64 xs[k]) := hc k _ (by simp [hlt])
      have e1 : wr.cell? ⟨b, o + k, none⟩ = some (.int .u64 xs[k]) := (HR.out.2.1.cell (p := ⟨b, o + k, none⟩) (World.block_lt_of_cell? w _ e0)).trans e0
      have r0 : wr.cell? ⟨w.heap.size, 0, none⟩ = some (.int .i64 first) := (HR.out.2.2.cell 0).trans rfl
      have r1 : wr.cell? ⟨w.heap.size, 1, none⟩ = some (.slice aw hs.length c) := (HR.out.2.2.cell 1).trans rfl
      have r2 : wr.cell? ⟨w.heap.size, 2, none⟩ = some (.slice ah hs.length c) := (HR.out.2.2.cell 2).trans rfl
      have HXK := Lib.hid (HX.out _ (List.getElem_mem hlt))
      have hall : (xs.take (k + 1)).all (fieldB first hs) = fieldB first hs xs[k] := by
        rw [List.take_succ_eq_append_getElem hlt, List.all_append, HR.out.1]
        simp
      have hall2 : fieldB first hs xs[k] = false → xs.all (fieldB first hs) = false := by
        intro hf
        rw [List.all_eq_false]
        exact ⟨xs[k], List.getElem_mem hlt, by rw [hf]; decide⟩
      have HALL := Lib.hid hall
      have HALL2 := Lib.hid hall2
      clear e0 hc hall hall2
      generalize xs[k] = X at *
      have hwl : w.heap.size < wr.heap.size := by have := HR.out.2.2.lt; exact this
      go_wp2_with fail
      refine (find_any first h0 aw ah c hs X HXK.out _ (HM.out.below HR.out.2.1)).mono ?_
      rintro e w1 ⟨rfl, b1⟩
      have hsz1 := b1.size
      have hrow1 := HR.out.2.2.below b1 hwl
      cases hfi : findI first hs X with
      | some i =>
        have hfb : fieldB first hs X = true := by simp [fieldB, hfi]
        rw [hfb] at HALL
        simp only [findV]
        have HW := Lib.hid (bl_call HR.out.2.1 b1)
        have HROW := Lib.hid hrow1
        clear hfi hfb HALL2 hrow1 b1
        go_wp2
        go_roundw
        case rel => exact ⟨k + 1, by omega, by go_num, HALL.out, HW.out, HROW.out⟩
        case measure => simp [intOf]; omega
      | none =>
        have hfb : fieldB first hs X = wIs X := by simp [fieldB, hfi]
        rw [hfb] at HALL HALL2
        simp only [findV]
        have HW := Lib.hid (bl_call HR.out.2.1 b1)
        have HROW := Lib.hid hrow1
        clear hfi hfb hrow1 b1
        go_wp2_with fail
        refine (is_any X HXK.out.1 (by have := HXK.out.2; omega) _).mono ?_
        rintro e w2 ⟨rfl, rfl⟩
        cases hi : wIs X with
        | true =>
          rw [hi] at HALL
          clear hi HALL2
          go_wp2
          go_roundw
          case rel => exact ⟨k + 1, by omega, by go_num, HALL.out, HW.out, HROW.out⟩
          case measure => simp [intOf]; omega
        | false =>
          have HF := Lib.hid (HALL2.out hi)
          clear hi HALL2 HALL
          go_wp2
          go_ret
          exact ⟨ret_bool HF.out.symm, HW.out⟩
    · obtain rfl : k = xs.length := by omega
      have HF := Lib.hid HR.out.1
      rw [List.take_of_length_le (Nat.le_refl _)] at HF
      clear hlt
      go_wp2
      go_ret
      exact ⟨ret_bool HF.out.symm, HR.out.2.1⟩
end Go.Proofs.Ytnjpjhlodamanaa
