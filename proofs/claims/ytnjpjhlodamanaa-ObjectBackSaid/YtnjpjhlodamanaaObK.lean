/-
  The fields of an object of a heap that was looked at ('fields').
  Conditions: as each states.
-/
import Derived.Test.YtnjpjhlodamanaaObJ
namespace Go.Proofs.Ytnjpjhlodamanaa
open Go.ChangeShapes Go.WideShapes Go.ChangeAt Go.RowKit
set_option linter.unusedVariables false
set_option linter.unusedSimpArgs false
set_option maxRecDepth 100000

theorem ffields_any (a : Option Addr) (n c : Nat) (w : World) :
    Calls Try.prog 77 #[.agg #[], .slice a n c] w fun e w' => e = .returned (.slice a n c) ∧ Below w.heap.size w w' := by
  go_enter Try.func77, Try.ntmps77
  go_wp2
  go_ret
  exact ⟨rfl, bl_alloc (Below.refl _ _) _⟩
theorem sfields_any (a : Option Addr) (n c : Nat) (w : World) :
    Calls Try.prog 84 #[.agg #[], .slice a n c] w fun e w' => e = .returned (.slice none 0 0) ∧ Below w.heap.size w w' := by
  go_enter Try.func84, Try.ntmps84
  go_wp2
  go_ret
  exact ⟨rfl, bl_alloc (Below.refl _ _) _⟩
theorem ftext_any (a : Option Addr) (n c s : Nat) (w : World) :
    Calls Try.prog 82 #[.agg #[], .slice a n c, .int .i64 (s : Int)] w fun e w' => e = .returned (.string ⟨#[]⟩) ∧ Below w.heap.size w w' := by
  go_enter Try.func82, Try.ntmps82
  go_wp2
  go_ret
  exact ⟨rfl, bl_alloc (Below.refl _ _) _⟩

/-- What 'fields' tells. -/
def fieldsV (k : Int) (a : Option Addr) (m c : Nat) : Value := if k = 2 then .slice none 0 0 else .slice a m c

set_option maxHeartbeats 4000000 in
theorem fields_raw (first : Int) (bw i n : Nat) (ah : Option Addr) (k t : Int) (S : Nat) (hmay : mayH k t S = true) (hn : n ≤ 2000) (hi : i + 1 + longH k S ≤ n) (w : World) (hc : w.cell? ⟨bw, i, none⟩ = some (.int .u64 (headW k t S))) :
    Calls Try.prog 36 #[viewV first (some ⟨bw, 0, none⟩) ah n n, .int .i64 (i : Int)] w fun e w' => e = .returned (fieldsV k (bodyA bw i n) (longH k S) (n - (i + 1))) ∧ Below w.heap.size w w' := by
  have hbd := mayH_bounds hmay
  have hk : k = 1 ∨ k = 2 ∨ k = 3 ∨ k = 4 := by omega
  have hbw : bw < w.heap.size := World.block_lt_of_cell? w _ hc
  clear hbd
  have HW := Lib.hid hmay
  have HI := Lib.hid hi
  clear hmay hi
  rcases hk with rfl | rfl | rfl | rfl
  all_goals
    have HC := Lib.hid hc
    clear hc
    go_enter Try.func36, Try.ntmps36
    go_wp2_with fail
    have hc' := fun (ob : Obj) => (World.cell?_alloc_lt w ob ⟨bw, i, none⟩ (by simpa using hbw)).trans HC.out
    first
      | refine (at_1 first bw i n ah t S HW.out hn HI.out _ (hc' _)).mono ?_
      | refine (at_2 first bw i n ah t S HW.out hn HI.out _ (hc' _)).mono ?_
      | refine (at_3 first bw i n ah t S HW.out hn HI.out _ (hc' _)).mono ?_
      | refine (at_4 first bw i n ah t S HW.out hn HI.out _ (hc' _)).mono ?_
    rintro e w1 ⟨rfl, b1⟩
    have HB1 : Hid (Below w.heap.size w w1) := by
      show Below _ _ _
      repeat (first | exact Below.refl _ _ | refine bl_alloc ?_ _ | refine bl_call ?_ b1)
    clear b1 hc'
    generalize hL : longH _ S = L
    have HL := Lib.hid hL
    clear hL
    simp only [kindV, if_true, if_false, reduceIte, Int.reduceEq]
    go_wp2_with fail
    first
      | refine (ffields_any _ _ _ _).mono ?_
      | refine (sfields_any _ _ _ _).mono ?_
    rintro e w2 ⟨rfl, b2⟩
    go_wp2
    go_ret
    refine ⟨by rw [HL.out]; rfl, ?_⟩
    repeat (first | exact Below.refl _ _ | exact HB1.out | refine bl_alloc ?_ _ | refine bl_drew ?_ | refine bl_set ?_ (by have := HB1.out.size; simp; omega) _ | refine bl_call ?_ b2)
end Go.Proofs.Ytnjpjhlodamanaa
