/-
  container/heap over a row: up.
  Conditions: as stated.
-/
import Derived.Test.YtgcmkhbpkmfpkaaQD
import Derived.Outline
import Derived.LoopTactic
import Derived.Lib.Hide
namespace Go.Proofs.Ytgcmkhbpkmfpkaa
open Go.ChangeShapes Go.WideShapes Go.ChangeAt Go.RowKit
set_option linter.unusedVariables false
set_option linter.unusedSimpArgs false
set_option maxRecDepth 100000

/-- At p there is a row that reads as l; its blocks are those of F. -/
def HQ (w : World) (p : Nat) (F : Nat → Prop) (l : List En) : Prop := ∃ bm sv, RowIn w p bm sv l ∧ ∀ k, footR p bm sv k ↔ F k

theorem HQ.lt {w : World} {p : Nat} {F : Nat → Prop} {l : List En} (h : HQ w p F l) : ∀ k, F k → k < w.heap.size := by
  obtain ⟨bm, sv, h, hF⟩ := h
  exact fun k hk => h.lt k ((hF k).2 hk)
theorem HQ.upon {w w' : World} {p : Nat} {F : Nat → Prop} {l : List En} (h : HQ w p F l) {S : Nat → Prop} (hu : Upon S w w') (hS : ∀ k, F k → ¬ S k) : HQ w' p F l := by
  obtain ⟨bm, sv, h, hF⟩ := h
  exact ⟨bm, sv, h.upon hu fun k hk => hS k ((hF k).1 hk), hF⟩
theorem HQ.below {w w' : World} {p : Nat} {F : Nat → Prop} {l : List En} (h : HQ w p F l) (hb : Below w.heap.size w w') : HQ w' p F l :=
  h.upon (S := fun _ => False) (Upon.of_below hb) fun _ _ h => h
theorem HQ.max {w : World} {p : Nat} {F : Nat → Prop} {l : List En} (h : HQ w p F l) : l.length ≤ 100000 := by
  obtain ⟨bm, sv, h, hF⟩ := h
  exact h.max
theorem HQ.nodup {w : World} {p : Nat} {F : Nat → Prop} {l : List En} (h : HQ w p F l) : (l.map (·.1)).Nodup := by
  obtain ⟨bm, sv, h, hF⟩ := h
  obtain ⟨f, _, hf⟩ := h.places
  exact hf.nodup

theorem len_q {w : World} {p : Nat} {F : Nat → Prop} {l : List En} (h : HQ w p F l) :
    Calls Try.prog 38 #[.pointer (some ⟨p, 0, none⟩)] w fun e w' => e = .returned (.int .i64 l.length) ∧ w = w' := by
  obtain ⟨bm, sv, h, hF⟩ := h
  exact rlen_any h
theorem less_q {w : World} {p : Nat} {F : Nat → Prop} {l : List En} (h : HQ w p F l) {i j : Nat} (hi : i < l.length) (hj : j < l.length) {b : Bool} (hb : decide (ltE (atE l i) (atE l j)) = b) :
    Calls Try.prog 39 #[.pointer (some ⟨p, 0, none⟩), .int .i64 i, .int .i64 j] w fun e w' => e = .returned (.bool b) ∧ Below w.heap.size w w' := by
  obtain ⟨bm, sv, h, hF⟩ := h
  rw [← hb]
  exact rless_any h hi hj
theorem swap_q {w : World} {p : Nat} {F : Nat → Prop} {l : List En} (h : HQ w p F l) {i j : Nat} (hi : i < l.length) (hj : j < l.length) (hij : i ≠ j) :
    Calls Try.prog 42 #[.pointer (some ⟨p, 0, none⟩), .int .i64 i, .int .i64 j] w fun e w' => e = .returned (.tuple #[]) ∧ HQ w' p F (swp l i j) ∧ Upon F w w' := by
  obtain ⟨bm, sv, h, hF⟩ := h
  exact (rswap_any h hi hj hij).mono fun e w' ⟨he, h', hu⟩ => ⟨he, ⟨bm, sv, h', hF⟩, hu.mono fun k _ hk => (hF k).1 hk⟩

/-- l' is l, exchanged among its first n. -/
structure Moved (l l' : List En) (n : Nat) : Prop where
  perm : l'.Perm l
  len : l'.length = l.length
  same : ∀ k, n ≤ k → atE l' k = atE l k
theorem Moved.refl (l : List En) (n : Nat) : Moved l l n := ⟨List.Perm.refl _, rfl, fun _ _ => rfl⟩
theorem Moved.trans {a b c : List En} {n : Nat} (h : Moved a b n) (k : Moved b c n) : Moved a c n := ⟨k.perm.trans h.perm, k.len.trans h.len, fun i hi => (k.same i hi).trans (h.same i hi)⟩
theorem Moved.swp {l : List En} {n i j : Nat} (hn : n ≤ l.length) (hi : i < n) (hj : j < n) : Moved l (swp l i j) n :=
  ⟨swp_perm (by omega) (by omega), length_swp l i j, fun k hk => by
    rw [atE_swp (by omega) (by omega)]
    unfold swpF
    rw [if_neg (by omega), if_neg (by omega)]⟩

def UpPost (p : Nat) (F : Nat → Prop) (l : List En) (n : Nat) (w : World) (e : Ending) (w' : World) : Prop :=
  e = .returned (.tuple #[]) ∧ ∃ l', HQ w' p F l' ∧ Moved l l' n ∧ HeapF (atE l') n ∧ Upon F w w'

set_option maxHeartbeats 1600000 in
theorem up_any {w : World} {p : Nat} {F : Nat → Prop} {l : List En} (h : HQ w p F l) {n j : Nat} (hn : n ≤ l.length) (hj : j < n) (hinv : UpInv (atE l) n j) :
    Calls Try.prog 19 #[.iface 46 (.pointer (some ⟨p, 0, none⟩)), .int .i64 j] w (UpPost p F l n w) := by
  have hmax := h.max
  have H := Lib.hid h
  have HI := Lib.hid hinv
  clear h hinv
  go_enter Try.func19, Try.ntmps19
  go_wp2_with fail
  go_loopw [1] (fun jv wr => ∃ (j' : Nat), jv = .int .i64 j' ∧ j' < n ∧ Hid (∃ l', HQ wr p F l' ∧ Moved l l' n ∧ UpInv (atE l') n j' ∧ Upon F w wr)) (fun jv _ => (intOf jv).toNat)
  case atStart => exact ⟨j, rfl, hj, l, H.out, Moved.refl _ _, HI.out, Upon.refl _ _⟩
  case round =>
    obtain ⟨j', rfl, hj', HR⟩ := hrel
    obtain ⟨l', hq, hmv, hinv', hup⟩ := HR.out
    have hl' := hmv.len
    have HM := Lib.hid (And.intro hmv (And.intro hinv' hup))
    by_cases h0 : j' = 0
    · subst h0
      have HF := Lib.hid (up_end hinv' (.inl rfl))
      have HQ' := Lib.hid hq
      clear hmv hinv' hup hq hl'
      rw [show ((0 : Nat) : Int) = 0 from rfl]
      go_wp2_with fail
      go_end0
      exact ⟨rfl, l', HQ'.out, HM.out.1, HF.out, HM.out.2.2⟩
    · obtain ⟨i, hi⟩ : ∃ i, i = (j' - 1) / 2 := ⟨_, rfl⟩
      have hij : i < j' := by omega
      have e1 : ((j' : Int) - 1) / 2 = (i : Int) := by omega
      have e2 : ((i : Int) == (j' : Int)) = false := by simp; omega
      have e0 : 0 ≤ (j' : Int) - 1 := by omega
      by_cases hlt : ltE (atE l' j') (atE l' ((j' - 1) / 2))
      · have hst := up_step (by omega) hj' hinv' hlt
        rw [← hi] at hst hlt
        have HST := Lib.hid hst
        have HQ' := Lib.hid hq
        have HD := Lib.hid (decide_eq_true hlt)
        have HL := Lib.hid hl'
        have HI2 := Lib.hid hi
        clear hmv hinv' hup hq hl' hlt hst hi
        go_wp2_with fail
        refine (less_q HQ'.out (i := j') (j := i) (by have := HL.out; omega) (by have := HL.out; omega) HD.out).mono ?_
        rintro e w1 ⟨rfl, hb1⟩
        have HB := Lib.hid hb1
        have HQ1 := Lib.hid (HQ'.out.below hb1)
        clear hb1
        go_wp2_with fail
        refine (swap_q HQ1.out (i := i) (j := j') (by have := HL.out; omega) (by have := HL.out; omega) (by omega)).mono ?_
        rintro e w2 ⟨rfl, hq2, hu2⟩
        have HQ2 := Lib.hid hq2
        have HU2 := Lib.hid hu2
        clear hq2 hu2
        go_wp2_with fail
        go_roundw
        case rel =>
          refine ⟨i, rfl, by omega, swp l' i j', HQ2.out, HM.out.1.trans (Moved.swp (by have := HL.out; omega) (by omega) hj'), ?_, ?_⟩
          · rw [atE_swp (by have := HL.out; omega) (by have := HL.out; omega)]; exact HST.out
          · exact (HM.out.2.2.trans (Upon.of_below (S := F) HB.out) fun _ _ h => h).trans HU2.out fun _ _ h => h
        case measure => simp [intOf]; omega
      · have hen := up_end hinv' (.inr hlt)
        rw [← hi] at hlt
        have HEN := Lib.hid hen
        have HQ' := Lib.hid hq
        have HD := Lib.hid (decide_eq_false hlt)
        have HL := Lib.hid hl'
        have HI2 := Lib.hid hi
        clear hmv hinv' hup hq hl' hlt hen hi
        go_wp2_with fail
        refine (less_q HQ'.out (i := j') (j := i) (by have := HL.out; omega) (by have := HL.out; omega) HD.out).mono ?_
        rintro e w1 ⟨rfl, hb1⟩
        have HB := Lib.hid hb1
        have HQ1 := Lib.hid (HQ'.out.below hb1)
        clear hb1
        go_wp2_with fail
        go_end0
        exact ⟨rfl, l', HQ1.out, HM.out.1, HEN.out, HM.out.2.2.trans (Upon.of_below (S := F) HB.out) fun _ _ h => h⟩

end Go.Proofs.Ytgcmkhbpkmfpkaa
