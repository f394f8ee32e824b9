/-
  Package code: Encode.
  Conditions: as each states.
-/
import Derived.Test.YtabdbciebhmflaaDoorCoZ
namespace Go.Proofs.YtabdbciebhmflaaDoor
open Go.ChangeShapes Go.WideShapes Go.ChangeAt Go.RowKit
set_option linter.unusedVariables false
set_option linter.unusedSimpArgs false
set_option maxRecDepth 100000

def encX (P : PPr) : List Int := if prG P = true then encPr P else []
/-- What Encode tells: the bytes in a row of its own, and whether there are any. -/
def EncPost (P : PPr) (w : World) (e : Ending) (w' : World) : Prop :=
  ∃ sv, e = .returned (.tuple #[sv, .bool (prG P)]) ∧ w'.ownsRow w.heap.size 5 1 sv (encX P).length (bytesL (encX P)) ∧ Below w.heap.size w w'

theorem codeGood_is {S : Nat → Prop} {P : PPr} {b : Bool} (hb : prG P = b) (v1 v2 v3 : Value) (w : World) (T : OpTab w) (h : prAt S w v1 v2 v3 P) (hF : prF P) :
    Calls Tryd.prog 15 #[.agg #[v1, v2, v3]] w fun e w' => e = .returned (.bool b) ∧ Below w.heap.size w w' :=
  (codeGood_any v1 v2 v3 P w T h hF).mono fun e w' ⟨he, hw⟩ => ⟨by rw [he, hb], hw⟩

theorem enc_end {P : PPr} {w wa wb : World} {p : Nat} {v : Value} (hG : prG P = true) (ha : Below w.heap.size w wa) (hW : WrAt (fun g => g < w.heap.size) wb p v (encPr P)) (hS : Stays (fun g => g < w.heap.size) wa wb) :
    wb.cell? ⟨p, 0, none⟩ = some v ∧ EncPost P w (.returned (.tuple #[v, .bool true])) wb := by
  refine ⟨(hW.root.cell 0).trans rfl, v, by rw [hG], ?_, ?_⟩
  · unfold encX
    rw [if_pos hG]
    exact owns_base hW.own fun g hg => by
      rcases Nat.lt_or_ge g w.heap.size with h | h
      · exact absurd hg (hW.keep g h).2.2
      · exact h
  · exact ⟨hS.os.trans ha.os, hS.tape.trans ha.tape, hS.output.trans ha.output, Nat.le_trans ha.size hS.size, fun k hk => (hS.block k (Nat.lt_of_lt_of_le hk ha.size) fun h => h hk).trans (ha.block k hk)⟩

theorem enc_none {P : PPr} {w w' : World} (hG : prG P = false) (hb : Below w.heap.size w w') : EncPost P w (.returned (.tuple #[.slice none 0 0, .bool false])) w' := by
  refine ⟨.slice none 0 0, by rw [hG], ?_, hb⟩
  unfold encX
  rw [if_neg (by rw [hG]; decide)]
  exact World.ownsRow_nil _ _ _ 1

set_option maxHeartbeats 4000000 in
theorem encode_any {S : Nat → Prop} (v1 v2 v3 : Value) (P : PPr) (w : World) (T : CoTab w) (h : prAt S w v1 v2 v3 P) (hF : prF P) :
    Calls Tryd.prog 10 #[.agg #[v1, v2, v3]] w (EncPost P w) := by
  have HP := Lib.hid h
  have HF := Lib.hid hF
  obtain ⟨⟨a1, c1, rfl, -⟩, ⟨a2, c2, rfl, -⟩, ⟨a3, c3, rfl, -⟩⟩ := h
  have b0 := Lib.hid (show Below w.heap.size w (w.alloc (.cells #[.slice a1 P.1.length c1, .slice a2 P.2.1.length c2, .slice a3 P.2.2.length c3] 26)) from (Below.refl _ _).alloc (Nat.le_refl _) _)
  cases hG : prG P
  · have HG := Lib.hid hG
    clear hG hF
    go_enter Tryd.func10, Tryd.ntmps10
    go_wp2_with fail
    refine (codeGood_is HG.out _ _ _ _ (T.op.below b0.out) (HP.out.below b0.out) HF.out).mono ?_
    rintro e w1 ⟨rfl, hb⟩
    go_wp2_with fail
    refine bodyPost_ret (v := .tuple #[.slice none 0 0, .bool false]) (by simp [results, Tryd.results10, go_sem]) rfl (enc_none HG.out (down_call b0.out hb))
  · have HG := Lib.hid hG
    clear hG hF
    go_enter Tryd.func10, Tryd.ntmps10
    go_wp2_with fail
    refine (codeGood_is HG.out _ _ _ _ (T.op.below b0.out) (HP.out.below b0.out) HF.out).mono ?_
    rintro e w1 ⟨rfl, hb⟩
    have rr : rowAt w1 w.heap.size 26 [.slice a1 P.1.length c1, .slice a2 P.2.1.length c2, .slice a3 P.2.2.length c3] := (rowAt.made _ _ _).below hb (by simp)
    have x0 : w1.cell? ⟨w.heap.size, 0, none⟩ = some (.slice a1 P.1.length c1) := (rr.cell 0).trans rfl
    have x1 : w1.cell? ⟨w.heap.size, 1, none⟩ = some (.slice a2 P.2.1.length c2) := (rr.cell 1).trans rfl
    have x2 : w1.cell? ⟨w.heap.size, 2, none⟩ = some (.slice a3 P.2.2.length c3) := (rr.cell 2).trans rfl
    have zz : w.heap.size < w1.heap.size := rr.lt
    have hb1 := Lib.hid (down_call b0.out hb)
    have hb2 := Lib.hid (show Below w.heap.size w (w1.alloc (.cells #[.slice none 0 0] 56)) from down_alloc hb1.out _)
    have hw0 : WrAt (fun g => g < w.heap.size) (w1.alloc (.cells #[.slice none 0 0] 56)) w1.heap.size (.slice none 0 0) [] :=
      ⟨rowAt.made _ _ _, World.ownsRow_nil _ _ _ 1, (fun g hg => by cases hg), fun g hg => ⟨Nat.lt_of_lt_of_le hg hb2.out.size, by omega, fun e => by cases e⟩⟩
    have HW0 := Lib.hid hw0
    have hs := Lib.hid ((HP.out.off (T := fun g => ¬ g < w.heap.size) (fun k hk hn => absurd hk hn)).below hb2.out)
    clear hw0 rr hb
    go_wp2_with fail
    refine (program_any HW0.out (T.below hb2.out).w P HG.out _ _ _ hs.out T.w.size).mono ?_
    rintro e w2 ⟨rfl, v2, h2, s2⟩
    obtain ⟨g0, PO⟩ := enc_end HG.out hb2.out h2 s2
    have PP := Lib.hid PO
    clear PO h2 s2
    go_wp2_with fail
    refine bodyPost_ret (v := .tuple #[v2, .bool true]) (by simp [results, Tryd.results10, go_sem]) rfl PP.out
end Go.Proofs.YtabdbciebhmflaaDoor
