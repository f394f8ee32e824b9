/-
  Package data: forms as plain data; which programs may have them ('goodForms').
  Conditions: as each states.
-/
import Derived.Test.YtajkkinolpkfmaaGreatDoorZDr
import Derived.Test.YtajkkinolpkfmaaGreatDoorZCoRg
import Derived.Test.YtajkkinolpkfmaaGreatDoorZDv
import Derived.Deep.RegionHeld3
namespace Go.Proofs.YtajkkinolpkfmaaGreatDoor
set_option linter.unusedVariables false
set_option linter.unusedSimpArgs false
open Go.ChangeShapes Go.WideShapes Go.ChangeAt Go.RowKit
set_option maxRecDepth 100000

/-- The forms that what a cell has must fit, the last one first; none: no such whole fits form k. -/
def fitP (f : List PFm) (k : Nat) (c : PCe) : Option (List Int) := match f[k]? with
  | none => none
  | some (fk, a, b, cons) =>
    if fk = 1 then (if c.1 = 0 then some [] else none)
    else if fk = 2 then (if c = numCe 0 ∨ c = numCe 1 then some [] else none)
    else if fk = 3 then (if c = numCe 0 then some [] else none)
    else if fk = 4 then (if c.1 = 2 then some [] else none)
    else if fk = 5 then (if c = blkCe 0 2 then some [b, a] else none)
    else if fk = 6 then (if c = numCe 0 then some [] else if c = blkCe 1 2 then some [(k : Int), a] else none)
    else if fk = 7 then (if c.1 = 0 then (if 0 ≤ c.2.2.1 ∧ c.2.2.1 < (cons.length : Int) ∧ cons[c.2.2.1.toNat]? = some (-1) then some [] else none)
      else if c.2.1 < (cons.length : Int) ∧ c = blkCe c.2.1 1 ∧ cons[c.2.1.toNat]? ≠ some (-1) then (cons[c.2.1.toNat]?).map fun x => [x] else none)
    else none
/-- Wholes against forms, the first one first. -/
def fitL (f : List PFm) : List Int → List PCe → Bool
  | _, [] => true
  | [], _ :: _ => false
  | k :: ks, c :: cs => match fitP f k.toNat c with
    | none => false
    | some l => fitL f (l.reverse ++ ks) cs
def fitsB (f : List PFm) (k : Int) (m : List PCe) : Bool := rfmsG f && (decide (0 ≤ k ∧ k < (f.length : Int)) && (goodMs m && fitL f [k] m))
theorem fitP_len {f : List PFm} {k : Nat} {c : PCe} {l : List Int} (h : fitP f k c = some l) (hg : goodC c = true) : (l.length : Int) = hasC c := by
  have hs : ∀ n : Int, hasC (numCe n) = 0 := fun n => rfl
  unfold fitP at h
  split at h
  · cases h
  · rename_i fk a b cons _
    have key : (∃ n, c = numCe n) ∨ c.1 = 0 ∨ c.1 = 2 → hasC c = 0 := by
      rintro (⟨n, rfl⟩ | h | h)
      · rfl
      · unfold hasC; rw [if_neg (by omega)]
      · unfold hasC; rw [if_neg (by omega)]
    repeat' split at h
    all_goals first
      | (cases h; rename_i hc; rcases hc with hc | hc <;> subst hc <;> rfl)
      | (cases h; rename_i hc; subst hc; rfl)
      | (cases h; rename_i hc; rw [key (.inr (.inl hc))]; rfl)
      | (cases h; rename_i hc; rw [key (.inr (.inr hc))]; rfl)
      | (cases h; done)
      | skip
    · cases h; rename_i hc _; rw [key (.inr (.inl hc))]; rfl
    · rename_i hc
      obtain ⟨_, h2, _⟩ := hc
      simp only [Option.map_eq_some_iff] at h
      obtain ⟨x, _, rfl⟩ := h
      rw [h2]
      rfl
/-- The least program with these forms. -/
def leastPr (f : List PFm) : PPr := ([(0, 0, [(9, 0, 0)])], [], f)
theorem leastPr_good (f : List PFm) : prG (leastPr f) = rfmsG f := by
  unfold prG leastPr rfmsG
  have e1 : fnsG [(0, 0, [(9, 0, 0)])] = true := by decide +kernel
  have e2 : strsG [] = true := rfl
  simp only [e1, e2, Bool.true_and, List.length_cons, List.length_nil]
  congr 1
  simp
set_option maxHeartbeats 4000000 in
theorem dgoodForms_any {S : Nat → Prop} {w : World} (T : OpTab w) {v : Value} {f : List PFm} (h : fmsAt S w v f) (hf : ∀ m ∈ f, fmF m) (hl : f.length ≤ maxLen) :
    Calls Tryz.prog 31 #[v] w fun e w' => e = .returned (.bool (rfmsG f)) ∧ Below w.heap.size w w' := by
  obtain ⟨a, c, rfl⟩ := h.slice
  have H := Lib.hid h
  have HF := Lib.hid hf
  have HL := Lib.hid hl
  clear h hf hl
  obtain ⟨W, hW⟩ : ∃ W, W = (w.alloc (.cells #[.int .i64 9, .int .i64 0, .int .i64 0] 85)).alloc (.cells #[.int .i64 0, .int .i64 0, .slice (some ⟨w.heap.size, 0, none⟩) 1 1] 82) := ⟨_, rfl⟩
  have r1 : rowAt W w.heap.size 85 [.int .i64 9, .int .i64 0, .int .i64 0] := by rw [hW]; exact (rowAt.made _ _ _).alloc _
  have r2 : rowAt W (w.heap.size + 1) 82 [.int .i64 0, .int .i64 0, .slice (some ⟨w.heap.size, 0, none⟩) 1 1] := by rw [hW]; exact rowAt.made_at _ _ (by simp)
  have BW := Lib.hid (show Below w.heap.size w W by rw [hW]; exact bl_alloc (bl_alloc (Below.refl _ _) _) _)
  have HP := Lib.hid (show prAt (fun _ => False) W (.slice (some ⟨w.heap.size + 1, 0, none⟩) 1 1) (.slice none 0 0) (.slice a f.length c) (leastPr f) from by
    refine ⟨⟨_, _, rfl, .inr ⟨w.heap.size + 1, 0, rfl, fun h => h, r2.lt, fun k x hx => ?_⟩⟩, ⟨_, _, rfl, .inl rfl⟩, ?_⟩
    · match k with
      | 0 =>
        have e : x = (0, 0, [(9, 0, 0)]) := by simpa [leastPr] using hx.symm
        subst e
        refine ⟨r2.cell 0, r2.cell 1, _, r2.cell 2, ⟨_, _, rfl, .inr ⟨w.heap.size, 0, rfl, fun h => h, r1.lt, fun j u hj => ?_⟩⟩⟩
        rw [Nat.zero_add, r1.cell]
        exact hj
      | k + 1 => simp [leastPr] at hx
    · exact (fms_below H.out BW.out).off (fun _ _ _ ⟨a, b, c, v, d, e⟩ => ⟨a, b, c, v, d, e.off (fun _ _ t => t.elim)⟩) (fun _ _ t => t.elim))
  have PF := Lib.hid (show prF (leastPr f) from ⟨fun m hm => by
      simp only [leastPr, List.mem_singleton] at hm
      subst hm
      refine ⟨by decide, by decide, fun p hp => ?_, by decide⟩
      simp only [List.mem_singleton] at hp
      subst hp
      exact ⟨by decide, by decide, by decide⟩, HF.out, fun s hs => by simp [leastPr] at hs, by simp [leastPr, maxLen], by simp [leastPr, maxLen], HL.out⟩)
  have CG := Lib.hid (codeGood_any _ _ _ (leastPr f) W (T.below BW.out) HP.out PF.out)
  rw [leastPr_good] at CG
  clear r1 r2
  go_enter Tryz.func31, Tryz.ntmps31
  go_wp2_with fail
  rw [← hW]
  refine CG.out.mono ?_
  rintro e w1 ⟨rfl, b1⟩
  have B1 := Lib.hid (bl_call BW.out b1)
  go_wp2_with fail
  go_ret
  exact ⟨rfl, B1.out⟩
end Go.Proofs.YtajkkinolpkfmaaGreatDoor

/-
  Package data: whether a message fits a form ('Fits'), given what one form says of one cell ('fit').
  Conditions: as each states.
-/
namespace Go.Proofs.YtajkkinolpkfmaaGreatDoor
set_option linter.unusedVariables false
set_option linter.unusedSimpArgs false
open Go.ChangeShapes Go.WideShapes Go.ChangeAt Go.RowKit
set_option maxRecDepth 100000

def intsV (l : List Int) : List Value := l.map (Value.int .i64)
theorem intsV_one (l : List Int) : ∀ u ∈ intsV l, u.oneCell' = true := by
  intro u hu
  simp only [intsV, List.mem_map] at hu
  obtain ⟨x, _, rfl⟩ := hu
  rfl
def FitR (R : Option (List Int)) (B : Nat) (v : Value) (b : Bool) (w' : World) : Prop :=
  (∃ l a cap, R = some l ∧ v = .slice a l.length cap ∧ b = true ∧ w'.ownsRow B 3 1 (.slice a l.length cap) l.length (intsV l)) ∨ (R = none ∧ b = false)
/-- What 'fit' tells. -/
def FitT (R : Option (List Int)) (w : World) (e : Ending) (w' : World) : Prop := ∃ v b, e = .returned (.tuple #[v, .bool b]) ∧ Below w.heap.size w w' ∧ FitR R w.heap.size v b w'
theorem fitP_range {f : List PFm} {k : Nat} {c : PCe} {l : List Int} (hf : rfmsG f = true) (hk : k < f.length) (h : fitP f k c = some l) : ∀ x ∈ l, 0 ≤ x ∧ x < (f.length : Int) := by
  have hf2 : fmsG f = true := by unfold rfmsG at hf; simp only [Bool.and_eq_true] at hf; exact hf.2
  have hm : fmG f.length f[k] = true := allI_at hf2 (List.getElem?_eq_getElem hk)
  unfold fitP at h
  rw [List.getElem?_eq_getElem hk] at h
  obtain ⟨⟨fk, a, b, cons⟩, hm'⟩ : ∃ x, x = f[k] := ⟨_, rfl⟩
  rw [← hm'] at h hm
  simp only at h
  unfold fmG at hm
  simp only at hm
  have bel : ∀ (x : Int) (n : Nat), belowB x n = true → 0 ≤ x ∧ x < (n : Int) := fun x n h => of_decide_eq_true h
  by_cases h5 : fk = 5
  · subst h5
    simp only [show ¬ (5 : Int) = 1 by decide, show ¬ (5 : Int) = 2 by decide, show ¬ (5 : Int) = 3 by decide, show ¬ (5 : Int) = 4 by decide, or_self, if_false, if_true, Bool.and_eq_true] at h hm
    split at h
    · cases h
      intro x hx
      simp only [List.mem_cons, List.not_mem_nil, or_false] at hx
      rcases hx with rfl | rfl
      · exact bel _ _ hm.2.1
      · exact bel _ _ hm.1
    · cases h
  · by_cases h6 : fk = 6
    · subst h6
      simp only [show ¬ (6 : Int) = 1 by decide, show ¬ (6 : Int) = 2 by decide, show ¬ (6 : Int) = 3 by decide, show ¬ (6 : Int) = 4 by decide, show ¬ (6 : Int) = 5 by decide, or_self, if_false, if_true, Bool.and_eq_true] at h hm
      split at h
      · cases h; intro x hx; cases hx
      · split at h
        · cases h
          intro x hx
          simp only [List.mem_cons, List.not_mem_nil, or_false] at hx
          rcases hx with rfl | rfl
          · omega
          · exact bel _ _ hm.1
        · cases h
    · by_cases h7 : fk = 7
      · subst h7
        simp only [show ¬ (7 : Int) = 1 by decide, show ¬ (7 : Int) = 2 by decide, show ¬ (7 : Int) = 3 by decide, show ¬ (7 : Int) = 4 by decide, show ¬ (7 : Int) = 5 by decide, show ¬ (7 : Int) = 6 by decide, or_self, if_false, if_true, Bool.and_eq_true] at h hm
        split at h
        · split at h
          · cases h; intro x hx; cases hx
          · cases h
        · split at h
          · rename_i hc
            obtain ⟨_, _, h3⟩ := hc
            simp only [Option.map_eq_some_iff] at h
            obtain ⟨y, hy, rfl⟩ := h
            intro x hx
            rw [List.mem_singleton] at hx
            subst hx
            have hcg := hm.2.2
            unfold consG at hcg
            simp only [Bool.and_eq_true] at hcg
            have := allI_at hcg.2 hy
            unfold conG at this
            rw [hy] at h3
            have hne : x ≠ -1 := fun e => h3 (by rw [e])
            rw [decide_eq_false hne, Bool.false_or] at this
            exact bel _ _ this
          · cases h
      · simp only [h5, h6, h7, if_false] at h
        repeat' split at h
        all_goals first | (cases h; intro x hx; cases hx; done) | (cases h; done)
structure FitM (w : World) (g : Nat) (ks : List Int) (wr : World) : Prop where
  b : Below w.heap.size w wr
  t : roomA wr g 77 1 ks.length (intsV ks.reverse)
  gl : w.heap.size ≤ g
theorem FitM.below {w : World} {g : Nat} {ks : List Int} {wr wr' : World} (h : FitM w g ks wr) (hb : Below wr.heap.size wr wr') : FitM w g ks wr' := ⟨bl_call h.b hb, h.t.below hb, h.gl⟩
theorem FitM.todo {w : World} {g : Nat} {ks us : List Int} {wr wr' : World} {n : Nat} (h : FitM w g ks wr) (ht : roomA wr' g 77 1 n (intsV us.reverse)) (hn : n = us.length) (hu : Upon (fun k => k = g) wr wr') : FitM w g us wr' := by
  subst hn
  exact ⟨h.b.trans (hu.belowB h.b.size fun k e => by have := h.gl; omega), ht, h.gl⟩
theorem FitM.pop {w : World} {g : Nat} {k : Int} {ks : List Int} {wr : World} (h : FitM w g (k :: ks) wr) : roomA wr g 77 1 ks.length (intsV ks.reverse) ∧ wr.cell? ⟨g, ks.length, none⟩ = some (.int .i64 k) := by
  have ht := h.t
  have e0 : intsV (k :: ks).reverse = intsV ks.reverse ++ [.int .i64 k] := by simp [intsV]
  rw [e0] at ht
  obtain ⟨h1, h2⟩ := ht.pop (n := ks.length) rfl
  have := h2 0 _ rfl
  exact ⟨h1, by simpa using this⟩
theorem under_intsD : Tryz.prog.underlying 28 = some (.slice 3) := by kernel_rfl
theorem info_intD : (Tryz.prog.info? 3).map (fun i => (i.zero, i.size, i.bytes)) = some (some (.int .i64 0), 1, 8) := by kernel_rfl
/-- Where nothing is gone through. -/
theorem fits_no {S S2 : Nat → Prop} {w : World} (T : OpTab w) {va vm : Value} {f : List PFm} (h : fmsAt S w va f) (hf : ∀ m ∈ f, fmF m) (hl : f.length ≤ maxLen) (k : Int) {m : List PCe} (hm : rdAt S2 w vm m.length (ceL m))
    (hno : (rfmsG f && (decide (0 ≤ k ∧ k < (f.length : Int)) && goodMs m)) = false) :
    Calls Tryz.prog 9 #[va, .int .i64 k, vm] w fun e w' => e = .returned (.bool false) ∧ Below w.heap.size w w' := by
  have GF := Lib.hid (dgoodForms_any T h hf hl)
  obtain ⟨a, c, rfl⟩ := h.slice
  have HM := Lib.hid hm
  obtain ⟨a2, c2, rfl⟩ := hm.slice
  have HN := Lib.hid hno
  clear hno hm hl hf h T
  cases hr : rfmsG f
  · rw [hr] at GF
    clear hr HN
    go_enter Tryz.func9, Tryz.ntmps9
    go_wp2_with fail
    refine GF.out.mono ?_
    rintro e w1 ⟨rfl, b1⟩
    have B1 := Lib.hid b1
    clear b1
    go_wp2_with fail
    go_ret
    exact ⟨rfl, B1.out⟩
  · rw [hr] at GF HN
    simp only [Bool.true_and] at HN
    clear hr
    by_cases h0 : k < 0
    · clear HN
      go_enter Tryz.func9, Tryz.ntmps9
      go_wp2_with fail
      refine GF.out.mono ?_
      rintro e w1 ⟨rfl, b1⟩
      have B1 := Lib.hid b1
      clear b1
      go_wp2_with fail
      go_ret
      exact ⟨rfl, B1.out⟩
    · by_cases h1 : (f.length : Int) ≤ k
      · clear HN
        go_enter Tryz.func9, Tryz.ntmps9
        go_wp2_with fail
        refine GF.out.mono ?_
        rintro e w1 ⟨rfl, b1⟩
        have B1 := Lib.hid b1
        clear b1
        go_wp2_with fail
        go_ret
        exact ⟨rfl, B1.out⟩
      · have hg : goodMs m = false := by
          have h2 := HN.out
          rw [decide_eq_true (by omega), Bool.true_and] at h2
          exact h2
        have HG := Lib.hid hg
        clear HN hg
        go_enter Tryz.func9, Tryz.ntmps9
        go_wp2_with fail
        refine GF.out.mono ?_
        rintro e w1 ⟨rfl, b1⟩
        have B1 := Lib.hid b1
        clear b1
        go_wp2_with fail
        refine (dgood_is HG.out (HM.out.below B1.out)).mono ?_
        rintro e w2 ⟨rfl, b2⟩
        have B2 := Lib.hid (bl_call B1.out b2)
        clear b2
        go_wp2_with fail
        go_ret
        exact ⟨rfl, B2.out⟩
end Go.Proofs.YtajkkinolpkfmaaGreatDoor

/-
  Package data: whether a message fits a form ('Fits'), the walk; 'fit' of ints and lists.
  Conditions: as each states.
-/
namespace Go.Proofs.YtajkkinolpkfmaaGreatDoor
set_option linter.unusedVariables false
set_option linter.unusedSimpArgs false
open Go.ChangeShapes Go.WideShapes Go.ChangeAt Go.RowKit
set_option maxRecDepth 100000

set_option maxHeartbeats 16000000 in
theorem fits_go {S S2 : Nat → Prop} {w : World} (T : OpTab w) {va vm : Value} {f : List PFm} (h : fmsAt S w va f) (hf : ∀ m ∈ f, fmF m) (hl : f.length ≤ maxLen) (k : Int) {m : List PCe} (hm : rdAt S2 w vm m.length (ceL m))
    (hg : rfmsG f = true) (hk0 : 0 ≤ k) (hk1 : k < (f.length : Int)) (hgm : goodMs m = true)
    (FIT : ∀ W, Below w.heap.size w W → ∀ (j : Nat), j < f.length → ∀ c, goodC c = true → Calls Tryz.prog 32 #[va, .int .i64 (j : Int), ceV c] W (FitT (fitP f j c) W)) :
    Calls Tryz.prog 9 #[va, .int .i64 k, vm] w fun e w' => e = .returned (.bool (fitL f [k] m)) ∧ Below w.heap.size w w' := by
  have GF := Lib.hid (dgoodForms_any T h hf hl)
  rw [hg] at GF
  have FR := Lib.hid (fun (j : Nat) (c : PCe) (l : List Int) hj h => fitP_range (f := f) (k := j) (c := c) (l := l) hg hj h)
  obtain ⟨a, c, rfl⟩ := h.slice
  have HM := Lib.hid hm
  obtain ⟨a2, c2, rfl⟩ := hm.slice
  have HG := Lib.hid hgm
  have HF := Lib.hid FIT
  have hlm := (goodMs_iff.1 hgm).1
  have HB := Lib.hid (goodMs_iff.1 hgm).2
  have AL := Lib.hid (whB_all _ 1 (goodMs_iff.1 hgm).2)
  obtain ⟨kn, rfl⟩ := Int.eq_ofNat_of_zero_le hk0
  have hn1 : decide ((kn : Int) < 0) = false := decide_eq_false (by omega)
  have hn2 : decide ((f.length : Int) ≤ (kn : Int)) = false := decide_eq_false (by omega)
  have hn3 : decide (f.length ≤ kn) = false := decide_eq_false (by omega)
  have hkn : kn < f.length := by omega
  obtain ⟨R, hR⟩ : ∃ R, fitL f [(kn : Int)] m = R := ⟨_, rfl⟩
  have ER := Lib.hid hR
  rw [hR]
  obtain ⟨ii, hii, hi0, hi1, hi2⟩ := info_parts info_intD
  clear hm hl hf h T hgm FIT hg hR hk0 hk1
  go_enter Tryz.func9, Tryz.ntmps9
  go_wp2_with fail
  refine GF.out.mono ?_
  rintro e w1 ⟨rfl, b1⟩
  have B1 := Lib.hid b1
  clear b1
  go_wp2_with fail
  refine (dgood_is HG.out (HM.out.below B1.out)).mono ?_
  rintro e w2 ⟨rfl, b2⟩
  have B2 := Lib.hid (bl_call B1.out b2)
  clear b2
  go_wp2_with fail
  obtain ⟨W2, hW2⟩ : ∃ W2, W2 = (w2.alloc (.cells (Tryz.zeroCells77.setIfInBounds 0 (.int .i64 (kn : Int))) 77)).alloc (.cells #[.int .i64 (kn : Int)] 3) := ⟨_, rfl⟩
  rw [← hW2]
  have M2 : Hid (FitM w w2.heap.size [(kn : Int)] W2) := by
    refine ⟨by rw [hW2]; exact bl_alloc (bl_alloc B2.out _) _, ?_, B2.out.size⟩
    rw [hW2]
    refine ⟨List.replicate 99 (.int .i64 0), ?_, by simp [intsV], by simp [intsV]⟩
    have e : Tryz.zeroCells77.setIfInBounds 0 (.int .i64 (kn : Int)) = ⟨.int .i64 (kn : Int) :: List.replicate 99 (.int .i64 0)⟩ := by rfl
    rw [e]
    exact (rowAt.made w2 _ _).alloc _
  clear hW2
  obtain ⟨gr, hgr⟩ : ∃ gr, w2.heap.size = gr := ⟨_, rfl⟩
  rw [hgr] at M2 ⊢
  clear hgr hn1 hn2 hn3
  go_loopw [8, 38] (fun v i wr => ∃ (j : Nat) (ks : List Int), i = .int .i64 j ∧ v = .slice (some ⟨gr, 0, none⟩) ks.length 100 ∧ j ≤ m.length ∧ Hid (FitM w gr ks wr) ∧ Hid (R = fitL f ks (m.drop j)) ∧ Hid (whB (ks.length : Int) (m.drop j) = true) ∧ Hid (∀ x ∈ ks, 0 ≤ x ∧ x < (f.length : Int))) (fun _ i _ => m.length - (intOf i).toNat)
  case atStart => exact ⟨0, [(kn : Int)], rfl, rfl, Nat.zero_le _, M2, Lib.hid ER.out.symm, HB, Lib.hid (fun x hx => by rw [List.mem_singleton] at hx; omega)⟩
  case round =>
    obtain ⟨j, ks, rfl, rfl, hj, HK, HR, HW, HX⟩ := hrel
    by_cases hlt : j < m.length
    · have hx := Lib.hid (List.getElem?_eq_getElem hlt)
      have hgc := AL.out _ (List.getElem_mem hlt)
      have hB := HW.out
      have hR := HR.out
      rw [List.drop_eq_getElem_cons hlt] at hB hR
      generalize m[j] = c at *
      obtain ⟨hG0, _, hB2⟩ := whB_cons hB
      have hGl := whB_len _ _ (by omega) HW.out
      rw [List.length_drop] at hGl
      obtain ⟨q, ks', rfl⟩ : ∃ q ks', ks = q :: ks' := by
        cases ks with
        | nil => exact absurd rfl hG0
        | cons q ks' => exact ⟨q, ks', rfl⟩
      rw [List.length_cons] at hGl
      obtain ⟨q0, q1⟩ := HX.out q (by simp)
      obtain ⟨qn, rfl⟩ := Int.eq_ofNat_of_zero_le q0
      have FC := Lib.hid (fun W hb => HF.out W hb qn (by omega) c hgc)
      have hR2 : R = match fitP f qn c with | none => false | some l => fitL f (l.reverse ++ ks') (m.drop (j + 1)) := by
        rw [hR]
        simp only [fitL, Int.toNat_natCast]
        all_goals rfl
      have HR2 := Lib.hid hR2
      have FPL := Lib.hid (fun l (h : fitP f qn c = some l) => fitP_len h hgc)
      have FPR := Lib.hid (fun l (h : fitP f qn c = some l) => FR.out qn c l (by omega) h)
      have HB2 := Lib.hid hB2
      obtain ⟨b, o, cap', e, hb, -, c0, c1, c2', c3⟩ := ce_cells (HM.out.below HK.out.b) hx.out
      cases e
      obtain ⟨PP, hc1⟩ := HK.out.pop
      have hjI : (j : Int) < (m.length : Int) := by omega
      have hl1 : (((((qn : Nat) : Int) :: ks').length : Nat) : Int) = (ks'.length : Int) + 1 := by simp
      have hl2 : (ks'.length : Int) < (ks'.length : Int) + 1 := by omega
      have hl3 : (0 : Int) ≤ (ks'.length : Int) := by omega
      have hks : ks'.length + 1 ≤ 100 := by omega
      obtain ⟨W1, hW1⟩ : ∃ W1, wr.alloc (.cells #[.int .i64 c.1, .int .i64 c.2.1, .int .i64 c.2.2.1, .string c.2.2.2] 33) = W1 := ⟨_, rfl⟩
      have bw : Below wr.heap.size wr W1 := by rw [← hW1]; exact bl_alloc (Below.refl _ _) _
      have K1 := Lib.hid (HK.out.below bw)
      have RC1 := Lib.hid (show rowAt W1 wr.heap.size 33 (ceC c) by rw [← hW1]; exact rowAt.made _ _ _)
      have KD := Lib.hid (K1.out.below (bl_drew (Below.refl _ _)))
      have G0 := Lib.hid (And.intro K1.out.pop.2 (cells4 RC1.out))
      have G1 := Lib.hid (And.intro KD.out.pop.2 (cells4 RC1.out.drew))
      clear hgc hB hB2 hR hR2 hG0 hGl bw PP hc1 q0 q1
      go_wp2_with fail
      clear hW1
      go_region_held3 (fun w' => w'.cell? ⟨gr, ks'.length, none⟩ = some (.int .i64 (qn : Int)) ∧ w'.cell? ⟨wr.heap.size, 0, none⟩ = some (.int .i64 c.1) ∧ w'.cell? ⟨wr.heap.size, 1, none⟩ = some (.int .i64 c.2.1) ∧ w'.cell? ⟨wr.heap.size, 2, none⟩ = some (.int .i64 c.2.2.1) ∧ w'.cell? ⟨wr.heap.size, 3, none⟩ = some (.string c.2.2.2))
        (first | with_reducible exact G0.out | with_reducible exact G1.out | with_reducible exact G3.out)
        ((go_at_call 32
          refine (FC.out _ KD.out.b).mono ?_
          rintro e w3 ⟨v3, b3, rfl, hb3, hfr⟩
          have K3 := Lib.hid (KD.out.below hb3)
          have G3 := Lib.hid (And.intro K3.out.pop.2 (cells4 (RC1.out.drew.below hb3 RC1.out.lt)))
          have FR3 := Lib.hid hfr
          have LOW := Lib.hid (show gr < W1.drew.heap.size from KD.out.t.lt)
          clear hb3 hfr))
      rcases FR3.out with ⟨l, fa, fcap, hl, rfl, rfl, hown⟩ | ⟨hl, rfl⟩
      · have E := Lib.hid (show R = fitL f (l.reverse ++ ks') (m.drop (j + 1)) by rw [HR2.out, hl])
        have LL := Lib.hid (FPL.out l hl)
        have hl8 : l.length ≤ 8 := by
          have h1 := LL.out
          have h2 := hasC_nn (AL.out c (List.mem_of_getElem? hx.out))
          omega
        have W3' := Lib.hid (show whB ((l.length + ks'.length : Nat) : Int) (m.drop (j + 1)) = true by
          have h2 := HB2.out
          rw [← LL.out, List.length_cons] at h2
          have e : ((ks'.length + 1 : Nat) : Int) + ((l.length : Int) - 1) = ((l.length + ks'.length : Nat) : Int) := by omega
          rwa [e] at h2)
        have hroom : ks'.length + l.length ≤ 100 := by
          have := whB_len _ _ (by omega) W3'.out
          rw [List.length_drop] at this
          omega
        have LR := Lib.hid (FPR.out l hl)
        have OW := Lib.hid hown
        have P3 := Lib.hid K3.out.pop.1
        clear hl hown FR3
        have hs2 : ∀ W, (Instr.slice 28 (.slice (some ⟨gr, 0, none⟩) (ks'.length + 1) 100) none (some (.int .i64 (ks'.length : Int))) none).run Tryz.prog W = .ok (.slice (some ⟨gr, 0, none⟩) ks'.length 100) W := fun W => run_slice_to_w _ _ under_intsD hii _ (by omega) (by omega) W
        have hnw : (intsV l).length = l.length * 1 := by simp [intsV]
        go_wp2_with (at_builtin; refine wpList_append_in (by rfl) _ _ _ (by rfl) 3 ii 1 under_intsD hii hi1 P3.out (by rfl) fa l.length fcap (intsV l) (by rfl) hnw (owns_src OW.out) (intsV_one _) hroom ?_; intro w7 ht7 hu7; have M7 := Lib.hid (K3.out.todo (us := l.reverse ++ ks') (n := ks'.length + l.length) (by simpa [intsV] using ht7) (by simp; omega) hu7); clear ht7 hu7)
        go_roundw
        case rel => exact ⟨j + 1, l.reverse ++ ks', by go_num, by simp [Nat.add_comm], by omega, M7, E, Lib.hid (by rw [List.length_append, List.length_reverse]; exact W3'.out), Lib.hid (fun x hx => (List.mem_append.1 hx).elim (fun h => LR.out x (List.mem_reverse.1 h)) (fun h => HX.out x (List.mem_cons_of_mem _ h)))⟩
        case measure => simp [intOf]; omega
      · have E := Lib.hid (show false = R by rw [HR2.out, hl])
        clear hl FR3
        go_wp2_with fail
        go_ret
        exact ⟨ret_bool E.out, K3.out.b⟩
    · obtain rfl : j = m.length := by omega
      have E := Lib.hid (show true = R by rw [HR.out, List.drop_length]; cases ks <;> rfl)
      clear HR
      go_wp2_with fail
      go_ret
      exact ⟨ret_bool E.out, HK.out.b⟩
end Go.Proofs.YtajkkinolpkfmaaGreatDoor

/-
  Package data: what a form says of a cell ('fit'): ints, lists.
  Conditions: as each states.
-/
namespace Go.Proofs.YtajkkinolpkfmaaGreatDoor
set_option linter.unusedVariables false
set_option linter.unusedSimpArgs false
open Go.ChangeShapes Go.WideShapes Go.ChangeAt Go.RowKit
set_option maxRecDepth 100000

theorem fm_cells {S : Nat → Prop} {w : World} {v : Value} {f : List PFm} (h : fmsAt S w v f) {k : Nat} {m : PFm} (hk : f[k]? = some m) :
    ∃ b o cap va, v = .slice (some ⟨b, o, none⟩) f.length cap ∧ b < w.heap.size ∧ w.cell? ⟨b, o + k * 4, none⟩ = some (.int .i64 m.1) ∧ w.cell? ⟨b, o + k * 4 + 1, none⟩ = some (.int .i64 m.2.1) ∧ w.cell? ⟨b, o + k * 4 + 2, none⟩ = some (.int .i64 m.2.2.1) ∧ w.cell? ⟨b, o + k * 4 + 3, none⟩ = some va ∧ rdAt S w va m.2.2.2.length (intsV m.2.2.2) := by
  obtain ⟨a, cap, rfl, h⟩ := h
  rcases h with h0 | ⟨b, o, rfl, hS, hb, hc⟩
  · have := (List.getElem?_eq_some_iff.1 hk).1; omega
  · obtain ⟨e0, e1, e2, va, e3, hr⟩ := hc k m hk
    exact ⟨b, o, cap, va, rfl, hb, e0, e1, e2, e3, hr⟩
theorem num_text : (⟨#[]⟩ : ByteArray) = noText := rfl
set_option maxHeartbeats 16000000 in
theorem fit_1 {S : Nat → Prop} {w : World} {v : Value} {f : List PFm} (h : fmsAt S w v f) {k : Nat} {a b : Int} {cons : List Int} (hk : f[k]? = some (1, a, b, cons)) (c : PCe) :
    Calls Tryz.prog 32 #[v, .int .i64 (k : Int), ceV c] w (FitT (fitP f k c) w) := by
  have E := Lib.hid (show fitP f k c = if c.1 = 0 then some [] else none by unfold fitP; rw [hk]; rfl)
  obtain ⟨fb, fo, cap, va, rfl, hfb, e0, e1, e2, e3, hr⟩ := fm_cells h hk
  obtain ⟨ca, cc, rfl⟩ := hr.slice
  have hlt := (List.getElem?_eq_some_iff.1 hk).1
  have hkI : (k : Int) < (f.length : Int) := by omega
  simp only at e0 e1 e2 e3
  obtain ⟨ck, ct, cn, cs⟩ := c
  simp only at E
  clear h hk hr
  have BB := Lib.hid (fun o o2 => bl_alloc (bl_alloc (Below.refl w.heap.size w) o) o2)
  by_cases h0 : ck = 0
  · subst h0
    have E1 := Lib.hid (show fitP f k (0, ct, cn, cs) = some [] by rw [E.out]; rfl)
    go_enter Tryz.func32, Tryz.ntmps32
    go_wp2_with fail
    go_quiet (fail)
    go_wp2_with fail
    refine bodyPost_ret (v := .tuple #[.slice none 0 0, .bool true]) (by simp [results, Tryz.results32, go_sem]) rfl ⟨_, _, rfl, below_draws (BB.out _ _) _, .inl ⟨[], none, 0, E1.out, rfl, rfl, ⟨rfl, .inl ⟨rfl, rfl⟩⟩⟩⟩
  · have E1 := Lib.hid (show fitP f k (ck, ct, cn, cs) = none by rw [E.out, if_neg h0])
    have t0 : (ck == 0) = false := beq_eq_false_iff_ne.2 h0
    go_enter Tryz.func32, Tryz.ntmps32
    go_wp2_with fail
    go_quiet (fail)
    go_wp2_with fail
    refine bodyPost_ret (v := .tuple #[.slice none 0 0, .bool false]) (by simp [results, Tryz.results32, go_sem]) rfl ⟨_, _, rfl, below_draws (BB.out _ _) _, .inr ⟨E1.out, rfl⟩⟩
set_option maxHeartbeats 16000000 in
theorem fit_6_nil {S : Nat → Prop} {w : World} {v : Value} {f : List PFm} (h : fmsAt S w v f) {k : Nat} {a b : Int} {cons : List Int} (hk : f[k]? = some (6, a, b, cons)) (c : PCe) (hc : c = numCe 0) :
    Calls Tryz.prog 32 #[v, .int .i64 (k : Int), ceV c] w (FitT (fitP f k c) w) := by
  have E := Lib.hid (show fitP f k c = some [] by unfold fitP; rw [hk]; simp [hc])
  have q1 : ∀ w, (Op.equalIn 10000 33 (.agg #[.int .i64 c.1, .int .i64 c.2.1, .int .i64 c.2.2.1, .string c.2.2.2]) (.agg #[.int .i64 0, .int .i64 0, .int .i64 0, .string ⟨#[]⟩])).run Tryz.prog w = .ok true w := fun w => by rw [run_ce_eq]; exact congrArg (Result.ok · w) ((ceEq_iff c (numCe 0)).2 hc)
  clear hc
  obtain ⟨fb, fo, cap, va, rfl, hfb, e0, e1, e2, e3, hr⟩ := fm_cells h hk
  obtain ⟨ca, cc, rfl⟩ := hr.slice
  have hlt := (List.getElem?_eq_some_iff.1 hk).1
  have hkI : (k : Int) < (f.length : Int) := by omega
  simp only at e0 e1 e2 e3
  obtain ⟨ck, ct, cn, cs⟩ := c
  simp only at E q1
  clear h hk hr
  obtain ⟨W, hW⟩ : ∃ W, (w.alloc (.cells #[.int .i64 ck, .int .i64 ct, .int .i64 cn, .string cs] 33)).alloc (.cells #[.int .i64 6, .int .i64 a, .int .i64 b, .slice ca cons.length cc] 30) = W := ⟨_, rfl⟩
  have r1 : rowAt W w.heap.size 33 [.int .i64 ck, .int .i64 ct, .int .i64 cn, .string cs] := by rw [← hW]; exact (rowAt.made _ _ _).alloc _
  have r2 : rowAt W (w.heap.size + 1) 30 [.int .i64 6, .int .i64 a, .int .i64 b, .slice ca cons.length cc] := by rw [← hW]; exact rowAt.made_at _ _ (by simp)
  have BW := Lib.hid (show Below w.heap.size w W by rw [← hW]; exact bl_alloc (bl_alloc (Below.refl _ _) _) _)
  have R1 := Lib.hid r1
  have R2 := Lib.hid r2
  clear r1 r2
  obtain ⟨p0, p1, p2, p3⟩ := cells4 R1.out
  obtain ⟨m0, m1, m2, m3⟩ := cells4 R2.out
  have hs2 : w.heap.size + 1 < W.heap.size := R2.out.lt
  have G0 := Lib.hid (cells4 R1.out)
  have G1 := Lib.hid (cells4 R1.out.drew)
  go_enter Tryz.func32, Tryz.ntmps32
  go_wp2_with fail
  clear hW
  go_region_held3 (fun w' => w'.cell? ⟨w.heap.size, 0, none⟩ = some (.int .i64 ck) ∧ w'.cell? ⟨w.heap.size, 1, none⟩ = some (.int .i64 ct) ∧ w'.cell? ⟨w.heap.size, 2, none⟩ = some (.int .i64 cn) ∧ w'.cell? ⟨w.heap.size, 3, none⟩ = some (.string cs))
    (first | with_reducible exact G0.out | with_reducible exact G1.out | with_reducible exact ⟨y0, y1, y2, y3⟩)
    ((go_at_call 63; refine (numberOf_any _ _).mono ?_; rintro e w3 ⟨rfl, b3⟩; have S1 := Lib.hid (R1.out.drew.below b3 R1.out.lt); have S2 := Lib.hid (R2.out.drew.below b3 R2.out.lt); have B3 := Lib.hid (bl_call (bl_drew BW.out) b3); obtain ⟨y0, y1, y2, y3⟩ := cells4 S1.out; clear b3))
  go_wp2_with fail
  refine bodyPost_ret (v := .tuple #[.slice none 0 0, .bool true]) (by simp [results, Tryz.results32, go_sem]) rfl ⟨_, _, rfl, B3.out, .inl ⟨[], none, 0, E.out, rfl, rfl, ⟨rfl, .inl ⟨rfl, rfl⟩⟩⟩⟩
set_option maxHeartbeats 16000000 in
theorem fit_6_two {S : Nat → Prop} {w : World} {v : Value} {f : List PFm} (h : fmsAt S w v f) {k : Nat} {a b : Int} {cons : List Int} (hk : f[k]? = some (6, a, b, cons)) (c : PCe) (hc : c ≠ numCe 0) :
    Calls Tryz.prog 32 #[v, .int .i64 (k : Int), ceV c] w (FitT (fitP f k c) w) := by
  have E := Lib.hid (show fitP f k c = if c = blkCe 1 2 then some [(k : Int), a] else none by unfold fitP; rw [hk]; simp [hc])
  obtain ⟨bb, hbb⟩ : ∃ bb, ceEq c (blkCe 1 2) = bb := ⟨_, rfl⟩
  have HBB := Lib.hid hbb
  have IFF := Lib.hid (ceEq_iff c (blkCe 1 2))
  have q1 : ∀ w, (Op.equalIn 10000 33 (.agg #[.int .i64 c.1, .int .i64 c.2.1, .int .i64 c.2.2.1, .string c.2.2.2]) (.agg #[.int .i64 0, .int .i64 0, .int .i64 0, .string ⟨#[]⟩])).run Tryz.prog w = .ok false w := fun w => by rw [run_ce_eq]; exact congrArg (Result.ok · w) (ceEq_false hc)
  have q2 : ∀ w, (Op.equalIn 10000 33 (.agg #[.int .i64 c.1, .int .i64 c.2.1, .int .i64 c.2.2.1, .string c.2.2.2]) (.agg #[.int .i64 1, .int .i64 1, .int .i64 2, .string ⟨#[]⟩])).run Tryz.prog w = .ok bb w := fun w => by rw [run_ce_eq]; exact congrArg (Result.ok · w) hbb
  clear hc hbb
  obtain ⟨fb, fo, cap, va, rfl, hfb, e0, e1, e2, e3, hr⟩ := fm_cells h hk
  obtain ⟨ca, cc, rfl⟩ := hr.slice
  have hlt := (List.getElem?_eq_some_iff.1 hk).1
  have hkI : (k : Int) < (f.length : Int) := by omega
  simp only at e0 e1 e2 e3
  obtain ⟨ck, ct, cn, cs⟩ := c
  simp only at E q1 q2
  clear h hk hr
  obtain ⟨W, hW⟩ : ∃ W, (w.alloc (.cells #[.int .i64 ck, .int .i64 ct, .int .i64 cn, .string cs] 33)).alloc (.cells #[.int .i64 6, .int .i64 a, .int .i64 b, .slice ca cons.length cc] 30) = W := ⟨_, rfl⟩
  have r1 : rowAt W w.heap.size 33 [.int .i64 ck, .int .i64 ct, .int .i64 cn, .string cs] := by rw [← hW]; exact (rowAt.made _ _ _).alloc _
  have r2 : rowAt W (w.heap.size + 1) 30 [.int .i64 6, .int .i64 a, .int .i64 b, .slice ca cons.length cc] := by rw [← hW]; exact rowAt.made_at _ _ (by simp)
  have BW := Lib.hid (show Below w.heap.size w W by rw [← hW]; exact bl_alloc (bl_alloc (Below.refl _ _) _) _)
  have R1 := Lib.hid r1
  have R2 := Lib.hid r2
  clear r1 r2
  obtain ⟨p0, p1, p2, p3⟩ := cells4 R1.out
  obtain ⟨m0, m1, m2, m3⟩ := cells4 R2.out
  have hs2 : w.heap.size + 1 < W.heap.size := R2.out.lt
  have G0 := Lib.hid (cells4 R1.out)
  have G1 := Lib.hid (cells4 R1.out.drew)
  go_enter Tryz.func32, Tryz.ntmps32
  go_wp2_with fail
  clear hW
  go_region_held3 (fun w' => w'.cell? ⟨w.heap.size, 0, none⟩ = some (.int .i64 ck) ∧ w'.cell? ⟨w.heap.size, 1, none⟩ = some (.int .i64 ct) ∧ w'.cell? ⟨w.heap.size, 2, none⟩ = some (.int .i64 cn) ∧ w'.cell? ⟨w.heap.size, 3, none⟩ = some (.string cs))
    (first | with_reducible exact G0.out | with_reducible exact G1.out | with_reducible exact ⟨y0, y1, y2, y3⟩)
    ((go_at_call 63; refine (numberOf_any _ _).mono ?_; rintro e w3 ⟨rfl, b3⟩; have S1 := Lib.hid (R1.out.drew.below b3 R1.out.lt); have S2 := Lib.hid (R2.out.drew.below b3 R2.out.lt); have B3 := Lib.hid (bl_call (bl_drew BW.out) b3); obtain ⟨y0, y1, y2, y3⟩ := cells4 S1.out; clear b3))
  obtain ⟨x0, x1, x2, x3⟩ := cells4 S2.out
  have H0 := Lib.hid (And.intro (cells4 S1.out) x1)
  have H1 := Lib.hid (And.intro (cells4 S1.out.drew) ((cells4 S2.out.drew).2.1))
  have H2 := Lib.hid (And.intro (cells4 (S1.out.alloc (.cells #[.int .i64 (k : Int), .int .i64 a] 3))) ((cells4 (S2.out.alloc (.cells #[.int .i64 (k : Int), .int .i64 a] 3))).2.1))
  have H3 := Lib.hid (And.intro (cells4 (S1.out.alloc (.cells #[.int .i64 (k : Int), .int .i64 a] 3)).drew) ((cells4 (S2.out.alloc (.cells #[.int .i64 (k : Int), .int .i64 a] 3)).drew).2.1))
  clear y0 y1 y2 y3
  go_wp2_with fail
  go_region_held3 (fun w' => (w'.cell? ⟨w.heap.size, 0, none⟩ = some (.int .i64 ck) ∧ w'.cell? ⟨w.heap.size, 1, none⟩ = some (.int .i64 ct) ∧ w'.cell? ⟨w.heap.size, 2, none⟩ = some (.int .i64 cn) ∧ w'.cell? ⟨w.heap.size, 3, none⟩ = some (.string cs)) ∧ w'.cell? ⟨w.heap.size + 1, 1, none⟩ = some (.int .i64 a))
    (first | with_reducible exact H0.out | with_reducible exact H1.out | with_reducible exact H2.out | with_reducible exact H3.out | with_reducible exact H4.out | with_reducible exact H5.out)
    (first
      | (go_at_call 64
         with_reducible refine (blockOf_any 1 2 w3.drew).mono ?_
         rintro e w5 ⟨rfl, b5⟩
         have T1 := Lib.hid (S1.out.drew.below b5 S1.out.lt)
         have T2 := Lib.hid (S2.out.drew.below b5 S2.out.lt)
         have H4 := Lib.hid (And.intro (cells4 T1.out) ((cells4 T2.out).2.1))
         have H5 := Lib.hid (And.intro (cells4 (T1.out.alloc (.cells #[.int .i64 (k : Int), .int .i64 a] 3))) ((cells4 (T2.out.alloc (.cells #[.int .i64 (k : Int), .int .i64 a] 3))).2.1))
         have FIN : Hid (∃ g, g = w5.heap.size ∧ rowAt (w5.alloc (.cells #[.int .i64 (k : Int), .int .i64 a] 3)) g 3 [.int .i64 (k : Int), .int .i64 a] ∧ w.heap.size ≤ g ∧ Below w.heap.size w (w5.alloc (.cells #[.int .i64 (k : Int), .int .i64 a] 3))) := by
           have hb := bl_call (bl_drew B3.out) b5
           exact ⟨_, rfl, rowAt.made _ _ _, hb.size, bl_alloc hb _⟩
         clear b5)
      | (go_at_call 64
         with_reducible refine (blockOf_any 1 2 (w3.alloc (.cells #[.int .i64 (k : Int), .int .i64 a] 3)).drew).mono ?_
         rintro e w5 ⟨rfl, b5⟩
         have r5 := (rowAt.made w3 3 [.int .i64 (k : Int), .int .i64 a]).drew.below b5 (by simp)
         have H4 := Lib.hid (And.intro (cells4 ((S1.out.alloc (.cells #[.int .i64 (k : Int), .int .i64 a] 3)).drew.below b5 (S1.out.alloc (.cells #[.int .i64 (k : Int), .int .i64 a] 3)).lt)) ((cells4 ((S2.out.alloc (.cells #[.int .i64 (k : Int), .int .i64 a] 3)).drew.below b5 (S2.out.alloc (.cells #[.int .i64 (k : Int), .int .i64 a] 3)).lt)).2.1))
         have FIN : Hid (∃ g, g = w3.heap.size ∧ rowAt w5 g 3 [.int .i64 (k : Int), .int .i64 a] ∧ w.heap.size ≤ g ∧ Below w.heap.size w w5) := ⟨_, rfl, r5, B3.out.size, bl_call (bl_drew (bl_alloc B3.out _)) b5⟩
         clear b5 r5))
  all_goals
    obtain ⟨g, hg, hrow, hlo, hbl⟩ := FIN.out
    go_wp2_with fail
    refine bodyPost_ret (v := .tuple #[.slice (some ⟨g, 0, none⟩) 2 2, .bool bb]) (by simp [results, Tryz.results32, go_sem, hg]) rfl ⟨_, _, rfl, hbl, ?_⟩
    cases bb
    · exact .inr ⟨by rw [E.out, if_neg (fun e => by have := IFF.out.2 e; rw [HBB.out] at this; cases this)], rfl⟩
    · refine .inl ⟨[(k : Int), a], some ⟨g, 0, none⟩, 2, by rw [E.out, if_pos (IFF.out.1 HBB.out)], rfl, rfl, ?_⟩
      exact owns_mk (rest := []) hrow hlo rfl rfl (Nat.le_refl _) (by decide)
end Go.Proofs.YtajkkinolpkfmaaGreatDoor

/-
  Package data: what a form says of a cell ('fit'): texts, the number 0, pairs, and a form of no kind.
  Conditions: as each states.
-/
namespace Go.Proofs.YtajkkinolpkfmaaGreatDoor
set_option linter.unusedVariables false
set_option linter.unusedSimpArgs false
open Go.ChangeShapes Go.WideShapes Go.ChangeAt Go.RowKit
set_option maxRecDepth 100000

set_option maxHeartbeats 16000000 in
theorem fit_4 {S : Nat → Prop} {w : World} {v : Value} {f : List PFm} (h : fmsAt S w v f) {k : Nat} {a b : Int} {cons : List Int} (hk : f[k]? = some (4, a, b, cons)) (c : PCe) :
    Calls Tryz.prog 32 #[v, .int .i64 (k : Int), ceV c] w (FitT (fitP f k c) w) := by
  have E := Lib.hid (show fitP f k c = if c.1 = 2 then some [] else none by unfold fitP; rw [hk]; rfl)
  obtain ⟨fb, fo, cap, va, rfl, hfb, e0, e1, e2, e3, hr⟩ := fm_cells h hk
  obtain ⟨ca, cc, rfl⟩ := hr.slice
  have hlt := (List.getElem?_eq_some_iff.1 hk).1
  have hkI : (k : Int) < (f.length : Int) := by omega
  simp only at e0 e1 e2 e3
  obtain ⟨ck, ct, cn, cs⟩ := c
  simp only at E
  clear h hk hr
  have BB := Lib.hid (fun o o2 => bl_alloc (bl_alloc (Below.refl w.heap.size w) o) o2)
  by_cases h0 : ck = 2
  · subst h0
    have E1 := Lib.hid (show fitP f k (2, ct, cn, cs) = some [] by rw [E.out]; rfl)
    go_enter Tryz.func32, Tryz.ntmps32
    go_wp2_with fail
    go_quiet (fail)
    go_wp2_with fail
    refine bodyPost_ret (v := .tuple #[.slice none 0 0, .bool true]) (by simp [results, Tryz.results32, go_sem]) rfl ⟨_, _, rfl, below_draws (BB.out _ _) _, .inl ⟨[], none, 0, E1.out, rfl, rfl, ⟨rfl, .inl ⟨rfl, rfl⟩⟩⟩⟩
  · have E1 := Lib.hid (show fitP f k (ck, ct, cn, cs) = none by rw [E.out, if_neg h0])
    have t0 : (ck == 2) = false := beq_eq_false_iff_ne.2 h0
    go_enter Tryz.func32, Tryz.ntmps32
    go_wp2_with fail
    go_quiet (fail)
    go_wp2_with fail
    refine bodyPost_ret (v := .tuple #[.slice none 0 0, .bool false]) (by simp [results, Tryz.results32, go_sem]) rfl ⟨_, _, rfl, below_draws (BB.out _ _) _, .inr ⟨E1.out, rfl⟩⟩
set_option maxHeartbeats 16000000 in
theorem fit_no {S : Nat → Prop} {w : World} {v : Value} {f : List PFm} (h : fmsAt S w v f) {k : Nat} {fk a b : Int} {cons : List Int} (hk : f[k]? = some (fk, a, b, cons)) (h1 : fk ≠ 1) (h2 : fk ≠ 2) (h3 : fk ≠ 3) (h4 : fk ≠ 4) (h5 : fk ≠ 5) (h6 : fk ≠ 6) (h7 : fk ≠ 7) (c : PCe) :
    Calls Tryz.prog 32 #[v, .int .i64 (k : Int), ceV c] w (FitT (fitP f k c) w) := by
  have E := Lib.hid (show fitP f k c = none by unfold fitP; rw [hk]; simp [h1, h2, h3, h4, h5, h6, h7])
  obtain ⟨fb, fo, cap, va, rfl, hfb, e0, e1, e2, e3, hr⟩ := fm_cells h hk
  obtain ⟨ca, cc, rfl⟩ := hr.slice
  have hlt := (List.getElem?_eq_some_iff.1 hk).1
  have hkI : (k : Int) < (f.length : Int) := by omega
  simp only at e0 e1 e2 e3
  obtain ⟨ck, ct, cn, cs⟩ := c
  try simp only at E
  have t1 : (fk == 1) = false := beq_eq_false_iff_ne.2 h1
  have t2 : (fk == 2) = false := beq_eq_false_iff_ne.2 h2
  have t3 : (fk == 3) = false := beq_eq_false_iff_ne.2 h3
  have t4 : (fk == 4) = false := beq_eq_false_iff_ne.2 h4
  have t5 : (fk == 5) = false := beq_eq_false_iff_ne.2 h5
  have t6 : (fk == 6) = false := beq_eq_false_iff_ne.2 h6
  have t7 : (fk == 7) = false := beq_eq_false_iff_ne.2 h7
  clear h hk hr h1 h2 h3 h4 h5 h6 h7
  have BB := Lib.hid (fun o o2 => bl_alloc (bl_alloc (Below.refl w.heap.size w) o) o2)
  go_enter Tryz.func32, Tryz.ntmps32
  go_wp2_with fail
  refine bodyPost_ret (v := .tuple #[.slice none 0 0, .bool false]) (by simp [results, Tryz.results32, go_sem]) rfl ⟨_, _, rfl, BB.out _ _, .inr ⟨E.out, rfl⟩⟩
set_option maxHeartbeats 16000000 in
theorem fit_3 {S : Nat → Prop} {w : World} {v : Value} {f : List PFm} (h : fmsAt S w v f) {k : Nat} {a b : Int} {cons : List Int} (hk : f[k]? = some (3, a, b, cons)) (c : PCe) :
    Calls Tryz.prog 32 #[v, .int .i64 (k : Int), ceV c] w (FitT (fitP f k c) w) := by
  have E := Lib.hid (show fitP f k c = if c = numCe 0 then some [] else none by unfold fitP; rw [hk]; simp)
  obtain ⟨bb, hbb⟩ : ∃ bb, ceEq c (numCe 0) = bb := ⟨_, rfl⟩
  have HBB := Lib.hid hbb
  have IFF := Lib.hid (ceEq_iff c (numCe 0))
  have q1 : ∀ w, (Op.equalIn 10000 33 (.agg #[.int .i64 c.1, .int .i64 c.2.1, .int .i64 c.2.2.1, .string c.2.2.2]) (.agg #[.int .i64 0, .int .i64 0, .int .i64 0, .string ⟨#[]⟩])).run Tryz.prog w = .ok bb w := fun w => by rw [run_ce_eq]; exact congrArg (Result.ok · w) hbb
  clear hbb
  obtain ⟨fb, fo, cap, va, rfl, hfb, e0, e1, e2, e3, hr⟩ := fm_cells h hk
  obtain ⟨ca, cc, rfl⟩ := hr.slice
  have hlt := (List.getElem?_eq_some_iff.1 hk).1
  have hkI : (k : Int) < (f.length : Int) := by omega
  simp only at e0 e1 e2 e3
  obtain ⟨ck, ct, cn, cs⟩ := c
  simp only at E q1
  clear h hk hr
  obtain ⟨W, hW⟩ : ∃ W, (w.alloc (.cells #[.int .i64 ck, .int .i64 ct, .int .i64 cn, .string cs] 33)).alloc (.cells #[.int .i64 3, .int .i64 a, .int .i64 b, .slice ca cons.length cc] 30) = W := ⟨_, rfl⟩
  have r1 : rowAt W w.heap.size 33 [.int .i64 ck, .int .i64 ct, .int .i64 cn, .string cs] := by rw [← hW]; exact (rowAt.made _ _ _).alloc _
  have r2 : rowAt W (w.heap.size + 1) 30 [.int .i64 3, .int .i64 a, .int .i64 b, .slice ca cons.length cc] := by rw [← hW]; exact rowAt.made_at _ _ (by simp)
  have BW := Lib.hid (show Below w.heap.size w W by rw [← hW]; exact bl_alloc (bl_alloc (Below.refl _ _) _) _)
  have R1 := Lib.hid r1
  have R2 := Lib.hid r2
  clear r1 r2
  obtain ⟨p0, p1, p2, p3⟩ := cells4 R1.out
  obtain ⟨m0, m1, m2, m3⟩ := cells4 R2.out
  have hs2 : w.heap.size + 1 < W.heap.size := R2.out.lt
  have G0 := Lib.hid (cells4 R1.out)
  have G1 := Lib.hid (cells4 R1.out.drew)
  go_enter Tryz.func32, Tryz.ntmps32
  go_wp2_with fail
  clear hW
  go_region_held3 (fun w' => w'.cell? ⟨w.heap.size, 0, none⟩ = some (.int .i64 ck) ∧ w'.cell? ⟨w.heap.size, 1, none⟩ = some (.int .i64 ct) ∧ w'.cell? ⟨w.heap.size, 2, none⟩ = some (.int .i64 cn) ∧ w'.cell? ⟨w.heap.size, 3, none⟩ = some (.string cs))
    (first | with_reducible exact G0.out | with_reducible exact G1.out | with_reducible exact ⟨y0, y1, y2, y3⟩)
    ((go_at_call 63; refine (numberOf_any _ _).mono ?_; rintro e w3 ⟨rfl, b3⟩; have S1 := Lib.hid (R1.out.drew.below b3 R1.out.lt); have S2 := Lib.hid (R2.out.drew.below b3 R2.out.lt); have B3 := Lib.hid (bl_call (bl_drew BW.out) b3); obtain ⟨y0, y1, y2, y3⟩ := cells4 S1.out; clear b3))
  go_wp2_with fail
  refine bodyPost_ret (v := .tuple #[.slice none 0 0, .bool bb]) (by simp [results, Tryz.results32, go_sem]) rfl ⟨_, _, rfl, B3.out, ?_⟩
  cases bb
  · exact .inr ⟨by rw [E.out, if_neg (fun e => by have := IFF.out.2 e; rw [HBB.out] at this; cases this)], rfl⟩
  · exact .inl ⟨[], none, 0, by rw [E.out, if_pos (IFF.out.1 HBB.out)], rfl, rfl, ⟨rfl, .inl ⟨rfl, rfl⟩⟩⟩
set_option maxHeartbeats 16000000 in
theorem fit_5 {S : Nat → Prop} {w : World} {v : Value} {f : List PFm} (h : fmsAt S w v f) {k : Nat} {a b : Int} {cons : List Int} (hk : f[k]? = some (5, a, b, cons)) (c : PCe) :
    Calls Tryz.prog 32 #[v, .int .i64 (k : Int), ceV c] w (FitT (fitP f k c) w) := by
  have E := Lib.hid (show fitP f k c = if c = blkCe 0 2 then some [b, a] else none by unfold fitP; rw [hk]; simp)
  obtain ⟨bb, hbb⟩ : ∃ bb, ceEq c (blkCe 0 2) = bb := ⟨_, rfl⟩
  have HBB := Lib.hid hbb
  have IFF := Lib.hid (ceEq_iff c (blkCe 0 2))
  have q2 : ∀ w, (Op.equalIn 10000 33 (.agg #[.int .i64 c.1, .int .i64 c.2.1, .int .i64 c.2.2.1, .string c.2.2.2]) (.agg #[.int .i64 1, .int .i64 0, .int .i64 2, .string ⟨#[]⟩])).run Tryz.prog w = .ok bb w := fun w => by rw [run_ce_eq]; exact congrArg (Result.ok · w) hbb
  clear hbb
  obtain ⟨fb, fo, cap, va, rfl, hfb, e0, e1, e2, e3, hr⟩ := fm_cells h hk
  obtain ⟨ca, cc, rfl⟩ := hr.slice
  have hlt := (List.getElem?_eq_some_iff.1 hk).1
  have hkI : (k : Int) < (f.length : Int) := by omega
  simp only at e0 e1 e2 e3
  obtain ⟨ck, ct, cn, cs⟩ := c
  simp only at E q2
  clear h hk hr
  obtain ⟨W, hW⟩ : ∃ W, (w.alloc (.cells #[.int .i64 ck, .int .i64 ct, .int .i64 cn, .string cs] 33)).alloc (.cells #[.int .i64 5, .int .i64 a, .int .i64 b, .slice ca cons.length cc] 30) = W := ⟨_, rfl⟩
  have r1 : rowAt W w.heap.size 33 [.int .i64 ck, .int .i64 ct, .int .i64 cn, .string cs] := by rw [← hW]; exact (rowAt.made _ _ _).alloc _
  have r2 : rowAt W (w.heap.size + 1) 30 [.int .i64 5, .int .i64 a, .int .i64 b, .slice ca cons.length cc] := by rw [← hW]; exact rowAt.made_at _ _ (by simp)
  have BW := Lib.hid (show Below w.heap.size w W by rw [← hW]; exact bl_alloc (bl_alloc (Below.refl _ _) _) _)
  have R1 := Lib.hid r1
  have R2 := Lib.hid r2
  clear r1 r2
  obtain ⟨p0, p1, p2, p3⟩ := cells4 R1.out
  obtain ⟨m0, m1, m2, m3⟩ := cells4 R2.out
  have hs2 : w.heap.size + 1 < W.heap.size := R2.out.lt
  go_enter Tryz.func32, Tryz.ntmps32
  go_wp2_with fail
  clear hW
  have H0 := Lib.hid (And.intro (cells4 R1.out) (And.intro (cells4 R2.out).2.1 (cells4 R2.out).2.2.1))
  have H1 := Lib.hid (And.intro (cells4 R1.out.drew) (And.intro (cells4 R2.out.drew).2.1 (cells4 R2.out.drew).2.2.1))
  have H2 := Lib.hid (And.intro (cells4 (R1.out.alloc (.cells #[.int .i64 b, .int .i64 a] 3))) (And.intro (cells4 (R2.out.alloc (.cells #[.int .i64 b, .int .i64 a] 3))).2.1 (cells4 (R2.out.alloc (.cells #[.int .i64 b, .int .i64 a] 3))).2.2.1))
  have H3 := Lib.hid (And.intro (cells4 (R1.out.alloc (.cells #[.int .i64 b, .int .i64 a] 3)).drew) (And.intro (cells4 (R2.out.alloc (.cells #[.int .i64 b, .int .i64 a] 3)).drew).2.1 (cells4 (R2.out.alloc (.cells #[.int .i64 b, .int .i64 a] 3)).drew).2.2.1))
  go_region_held3 (fun w' => (w'.cell? ⟨w.heap.size, 0, none⟩ = some (.int .i64 ck) ∧ w'.cell? ⟨w.heap.size, 1, none⟩ = some (.int .i64 ct) ∧ w'.cell? ⟨w.heap.size, 2, none⟩ = some (.int .i64 cn) ∧ w'.cell? ⟨w.heap.size, 3, none⟩ = some (.string cs)) ∧ w'.cell? ⟨w.heap.size + 1, 1, none⟩ = some (.int .i64 a) ∧ w'.cell? ⟨w.heap.size + 1, 2, none⟩ = some (.int .i64 b))
    (first | with_reducible exact H0.out | with_reducible exact H1.out | with_reducible exact H2.out | with_reducible exact H3.out | with_reducible exact H4.out | with_reducible exact H5.out)
    (first
      | (go_at_call 64
         with_reducible refine (blockOf_any 0 2 W.drew).mono ?_
         rintro e w5 ⟨rfl, b5⟩
         have T1 := Lib.hid (R1.out.drew.below b5 R1.out.lt)
         have T2 := Lib.hid (R2.out.drew.below b5 R2.out.lt)
         have H4 := Lib.hid (And.intro (cells4 T1.out) (And.intro (cells4 T2.out).2.1 (cells4 T2.out).2.2.1))
         have H5 := Lib.hid (And.intro (cells4 (T1.out.alloc (.cells #[.int .i64 b, .int .i64 a] 3))) (And.intro (cells4 (T2.out.alloc (.cells #[.int .i64 b, .int .i64 a] 3))).2.1 (cells4 (T2.out.alloc (.cells #[.int .i64 b, .int .i64 a] 3))).2.2.1))
         have FIN : Hid (∃ g, g = w5.heap.size ∧ rowAt (w5.alloc (.cells #[.int .i64 b, .int .i64 a] 3)) g 3 [.int .i64 b, .int .i64 a] ∧ w.heap.size ≤ g ∧ Below w.heap.size w (w5.alloc (.cells #[.int .i64 b, .int .i64 a] 3))) := by
           have hb := bl_call (bl_drew BW.out) b5
           exact ⟨_, rfl, rowAt.made _ _ _, hb.size, bl_alloc hb _⟩
         clear b5)
      | (go_at_call 64
         with_reducible refine (blockOf_any 0 2 (W.alloc (.cells #[.int .i64 b, .int .i64 a] 3)).drew).mono ?_
         rintro e w5 ⟨rfl, b5⟩
         have r5 := (rowAt.made W 3 [.int .i64 b, .int .i64 a]).drew.below b5 (by simp)
         have H4 := Lib.hid (And.intro (cells4 ((R1.out.alloc (.cells #[.int .i64 b, .int .i64 a] 3)).drew.below b5 (R1.out.alloc (.cells #[.int .i64 b, .int .i64 a] 3)).lt)) (And.intro (cells4 ((R2.out.alloc (.cells #[.int .i64 b, .int .i64 a] 3)).drew.below b5 (R2.out.alloc (.cells #[.int .i64 b, .int .i64 a] 3)).lt)).2.1 (cells4 ((R2.out.alloc (.cells #[.int .i64 b, .int .i64 a] 3)).drew.below b5 (R2.out.alloc (.cells #[.int .i64 b, .int .i64 a] 3)).lt)).2.2.1))
         have FIN : Hid (∃ g, g = W.heap.size ∧ rowAt w5 g 3 [.int .i64 b, .int .i64 a] ∧ w.heap.size ≤ g ∧ Below w.heap.size w w5) := ⟨_, rfl, r5, BW.out.size, bl_call (bl_drew (bl_alloc BW.out _)) b5⟩
         clear b5 r5))
  all_goals
    obtain ⟨g, hg, hrow, hlo, hbl⟩ := FIN.out
    go_wp2_with fail
    refine bodyPost_ret (v := .tuple #[.slice (some ⟨g, 0, none⟩) 2 2, .bool bb]) (by simp [results, Tryz.results32, go_sem, hg]) rfl ⟨_, _, rfl, hbl, ?_⟩
    cases bb
    · exact .inr ⟨by rw [E.out, if_neg (fun e => by have := IFF.out.2 e; rw [HBB.out] at this; cases this)], rfl⟩
    · refine .inl ⟨[b, a], some ⟨g, 0, none⟩, 2, by rw [E.out, if_pos (IFF.out.1 HBB.out)], rfl, rfl, ?_⟩
      exact owns_mk (rest := []) hrow hlo rfl rfl (Nat.le_refl _) (by decide)
end Go.Proofs.YtajkkinolpkfmaaGreatDoor

/-
  Package data: what a form says of a cell ('fit'): bools.
  Conditions: as each states.
-/
namespace Go.Proofs.YtajkkinolpkfmaaGreatDoor
set_option linter.unusedVariables false
set_option linter.unusedSimpArgs false
open Go.ChangeShapes Go.WideShapes Go.ChangeAt Go.RowKit
set_option maxRecDepth 100000

set_option maxHeartbeats 16000000 in
theorem fit_2_nil {S : Nat → Prop} {w : World} {v : Value} {f : List PFm} (h : fmsAt S w v f) {k : Nat} {a b : Int} {cons : List Int} (hk : f[k]? = some (2, a, b, cons)) (c : PCe) (hc : c = numCe 0) :
    Calls Tryz.prog 32 #[v, .int .i64 (k : Int), ceV c] w (FitT (fitP f k c) w) := by
  have E := Lib.hid (show fitP f k c = some [] by unfold fitP; rw [hk]; simp [hc])
  have q1 : ∀ w, (Op.equalIn 10000 33 (.agg #[.int .i64 c.1, .int .i64 c.2.1, .int .i64 c.2.2.1, .string c.2.2.2]) (.agg #[.int .i64 0, .int .i64 0, .int .i64 0, .string ⟨#[]⟩])).run Tryz.prog w = .ok true w := fun w => by rw [run_ce_eq]; exact congrArg (Result.ok · w) ((ceEq_iff c (numCe 0)).2 hc)
  clear hc
  obtain ⟨fb, fo, cap, va, rfl, hfb, e0, e1, e2, e3, hr⟩ := fm_cells h hk
  obtain ⟨ca, cc, rfl⟩ := hr.slice
  have hlt := (List.getElem?_eq_some_iff.1 hk).1
  have hkI : (k : Int) < (f.length : Int) := by omega
  simp only at e0 e1 e2 e3
  obtain ⟨ck, ct, cn, cs⟩ := c
  simp only at E q1
  clear h hk hr
  obtain ⟨W, hW⟩ : ∃ W, (w.alloc (.cells #[.int .i64 ck, .int .i64 ct, .int .i64 cn, .string cs] 33)).alloc (.cells #[.int .i64 2, .int .i64 a, .int .i64 b, .slice ca cons.length cc] 30) = W := ⟨_, rfl⟩
  have r1 : rowAt W w.heap.size 33 [.int .i64 ck, .int .i64 ct, .int .i64 cn, .string cs] := by rw [← hW]; exact (rowAt.made _ _ _).alloc _
  have r2 : rowAt W (w.heap.size + 1) 30 [.int .i64 2, .int .i64 a, .int .i64 b, .slice ca cons.length cc] := by rw [← hW]; exact rowAt.made_at _ _ (by simp)
  have BW := Lib.hid (show Below w.heap.size w W by rw [← hW]; exact bl_alloc (bl_alloc (Below.refl _ _) _) _)
  have R1 := Lib.hid r1
  have R2 := Lib.hid r2
  clear r1 r2
  obtain ⟨p0, p1, p2, p3⟩ := cells4 R1.out
  obtain ⟨m0, m1, m2, m3⟩ := cells4 R2.out
  have hs2 : w.heap.size + 1 < W.heap.size := R2.out.lt
  have G0 := Lib.hid (cells4 R1.out)
  have G1 := Lib.hid (cells4 R1.out.drew)
  go_enter Tryz.func32, Tryz.ntmps32
  go_wp2_with fail
  clear hW
  refine wp_region_held_drew (S := fun w' => w'.cell? ⟨w.heap.size, 0, none⟩ = some (.int .i64 ck) ∧ w'.cell? ⟨w.heap.size, 1, none⟩ = some (.int .i64 ct) ∧ w'.cell? ⟨w.heap.size, 2, none⟩ = some (.int .i64 cn) ∧ w'.cell? ⟨w.heap.size, 3, none⟩ = some (.string cs)) (by kernel_rfl) (cells4 R1.out) (fun hH0 => ?_)
  refine wpAnyH_take (i := 0) (oi := _) (v := ?_) (by simp only [List.getElem?_toArray, List.getElem?_cons_succ, List.getElem?_cons_zero]; rfl) (by kernel_rfl) (by kernel_rfl) (by kernel_rfl) (by exact fun _ _ _ h => h) (Or.inl ⟨by rfl, ?_⟩) (by assumption) ?_
  rotate_left
  · (intro w hSw; (try dsimp only at hSw); go_simp; try with_reducible rfl)
  try simp only [Act.put, List.setIfInBounds_toArray, List.set_cons_zero, List.set_cons_succ]
  refine wpAnyH_ready (rs := [1]) (by kernel_rfl) (by simp) ?_
  refine AllReadyH.cons rfl (fun K hK => ?_) AllReadyH.nil
  go_simp
  refine (numberOf_any 0 _).mono ?_
  rintro e w3 ⟨rfl, b3⟩
  have S1 := Lib.hid (R1.out.drew.below b3 R1.out.lt)
  have B3 := Lib.hid (bl_call (bl_drew BW.out) b3)
  clear b3
  go_wp2_with fail
  refine hK.out _ _ (cells4 S1.out) (fun hH1 => ?_)
  clear hK K hH0
  try simp only [Act.put, List.setIfInBounds_toArray, List.set_cons_zero, List.set_cons_succ]
  refine wpAnyH_take (i := 2) (oi := _) (v := ?_) (by simp only [List.getElem?_toArray, List.getElem?_cons_succ, List.getElem?_cons_zero]; rfl) (by kernel_rfl) (by kernel_rfl) (by kernel_rfl) (by exact fun _ _ _ h => h) (Or.inl ⟨by rfl, ?_⟩) (by assumption) ?_
  rotate_left
  · (intro w hSw; (try dsimp only at hSw); go_simp; try with_reducible rfl)
  try simp only [Act.put, List.setIfInBounds_toArray, List.set_cons_zero, List.set_cons_succ]
  refine wpAnyH_take (i := 3) (oi := _) (v := ?_) (by simp only [List.getElem?_toArray, List.getElem?_cons_succ, List.getElem?_cons_zero]; rfl) (by kernel_rfl) (by kernel_rfl) (by kernel_rfl) (by exact fun _ _ _ h => h) (Or.inl ⟨by rfl, ?_⟩) (by assumption) ?_
  rotate_left
  · (intro w hSw; (try dsimp only at hSw); go_simp; try with_reducible rfl)
  try simp only [Act.put, List.setIfInBounds_toArray, List.set_cons_zero, List.set_cons_succ]
  refine wpAnyH_take (i := 4) (oi := _) (v := undef) (by simp only [List.getElem?_toArray, List.getElem?_cons_succ, List.getElem?_cons_zero]; rfl) (by kernel_rfl) (by kernel_rfl) (by kernel_rfl) (by exact fun _ _ _ h => h) (Or.inr ⟨by rfl, rfl⟩) (by assumption) ?_
  try simp only [Act.put, List.setIfInBounds_toArray, List.set_cons_zero, List.set_cons_succ]
  refine wpAnyH_take (i := 5) (oi := _) (v := undef) (by simp only [List.getElem?_toArray, List.getElem?_cons_succ, List.getElem?_cons_zero]; rfl) (by kernel_rfl) (by kernel_rfl) (by kernel_rfl) (by exact fun _ _ _ h => h) (Or.inr ⟨by rfl, rfl⟩) (by assumption) ?_
  try simp only [Act.put, List.setIfInBounds_toArray, List.set_cons_zero, List.set_cons_succ]
  refine wpAnyH_take (i := 6) (oi := _) (v := undef) (by simp only [List.getElem?_toArray, List.getElem?_cons_succ, List.getElem?_cons_zero]; rfl) (by kernel_rfl) (by kernel_rfl) (by kernel_rfl) (by exact fun _ _ _ h => h) (Or.inr ⟨by rfl, rfl⟩) (by assumption) ?_
  try simp only [Act.put, List.setIfInBounds_toArray, List.set_cons_zero, List.set_cons_succ]
  refine wpAnyH_take (i := 7) (oi := _) (v := ?_) (by simp only [List.getElem?_toArray, List.getElem?_cons_succ, List.getElem?_cons_zero]; rfl) (by kernel_rfl) (by kernel_rfl) (by kernel_rfl) (by exact fun _ _ _ h => h) (Or.inl ⟨by rfl, ?_⟩) (by assumption) ?_
  rotate_left
  · (intro w hSw; (try dsimp only at hSw); go_simp; try with_reducible rfl)
  try simp only [Act.put, List.setIfInBounds_toArray, List.set_cons_zero, List.set_cons_succ]
  refine wpAnyH_take (i := 8) (oi := _) (v := ?_) (by simp only [List.getElem?_toArray, List.getElem?_cons_succ, List.getElem?_cons_zero]; rfl) (by kernel_rfl) (by kernel_rfl) (by kernel_rfl) (by exact fun _ _ _ h => h) (Or.inl ⟨by rfl, ?_⟩) (by assumption) ?_
  rotate_left
  · (intro w hSw; (try dsimp only at hSw); go_simp; try with_reducible rfl)
  try simp only [Act.put, List.setIfInBounds_toArray, List.set_cons_zero, List.set_cons_succ]
  refine wpAnyH_take (i := 9) (oi := _) (v := ?_) (by simp only [List.getElem?_toArray, List.getElem?_cons_succ, List.getElem?_cons_zero]; rfl) (by kernel_rfl) (by kernel_rfl) (by kernel_rfl) (by exact fun _ _ _ h => h) (Or.inl ⟨by rfl, ?_⟩) (by assumption) ?_
  rotate_left
  · (intro w hSw; (try dsimp only at hSw); go_simp; try with_reducible rfl)
  try simp only [Act.put, List.setIfInBounds_toArray, List.set_cons_zero, List.set_cons_succ]
  refine wpAnyH_done (by kernel_rfl) ?_ _
  go_wp2_with fail
  refine bodyPost_ret (v := .tuple #[.slice none 0 0, .bool true]) (by simp [results, Tryz.results32, go_sem]) rfl ⟨_, _, rfl, B3.out, .inl ⟨[], none, 0, E.out, rfl, rfl, ⟨rfl, .inl ⟨rfl, rfl⟩⟩⟩⟩
set_option maxHeartbeats 16000000 in
theorem fit_2_one {S : Nat → Prop} {w : World} {v : Value} {f : List PFm} (h : fmsAt S w v f) {k : Nat} {a b : Int} {cons : List Int} (hk : f[k]? = some (2, a, b, cons)) (c : PCe) (hc : c ≠ numCe 0) :
    Calls Tryz.prog 32 #[v, .int .i64 (k : Int), ceV c] w (FitT (fitP f k c) w) := by
  have E := Lib.hid (show fitP f k c = if c = numCe 1 then some [] else none by unfold fitP; rw [hk]; simp [hc])
  obtain ⟨bb, hbb⟩ : ∃ bb, ceEq c (numCe 1) = bb := ⟨_, rfl⟩
  have HBB := Lib.hid hbb
  have IFF := Lib.hid (ceEq_iff c (numCe 1))
  have q1 : ∀ w, (Op.equalIn 10000 33 (.agg #[.int .i64 c.1, .int .i64 c.2.1, .int .i64 c.2.2.1, .string c.2.2.2]) (.agg #[.int .i64 0, .int .i64 0, .int .i64 0, .string ⟨#[]⟩])).run Tryz.prog w = .ok false w := fun w => by rw [run_ce_eq]; exact congrArg (Result.ok · w) (ceEq_false hc)
  have q2 : ∀ w, (Op.equalIn 10000 33 (.agg #[.int .i64 c.1, .int .i64 c.2.1, .int .i64 c.2.2.1, .string c.2.2.2]) (.agg #[.int .i64 0, .int .i64 0, .int .i64 1, .string ⟨#[]⟩])).run Tryz.prog w = .ok bb w := fun w => by rw [run_ce_eq]; exact congrArg (Result.ok · w) hbb
  clear hc hbb
  obtain ⟨fb, fo, cap, va, rfl, hfb, e0, e1, e2, e3, hr⟩ := fm_cells h hk
  obtain ⟨ca, cc, rfl⟩ := hr.slice
  have hlt := (List.getElem?_eq_some_iff.1 hk).1
  have hkI : (k : Int) < (f.length : Int) := by omega
  simp only at e0 e1 e2 e3
  obtain ⟨ck, ct, cn, cs⟩ := c
  simp only at E q1 q2
  clear h hk hr
  obtain ⟨W, hW⟩ : ∃ W, (w.alloc (.cells #[.int .i64 ck, .int .i64 ct, .int .i64 cn, .string cs] 33)).alloc (.cells #[.int .i64 2, .int .i64 a, .int .i64 b, .slice ca cons.length cc] 30) = W := ⟨_, rfl⟩
  have r1 : rowAt W w.heap.size 33 [.int .i64 ck, .int .i64 ct, .int .i64 cn, .string cs] := by rw [← hW]; exact (rowAt.made _ _ _).alloc _
  have r2 : rowAt W (w.heap.size + 1) 30 [.int .i64 2, .int .i64 a, .int .i64 b, .slice ca cons.length cc] := by rw [← hW]; exact rowAt.made_at _ _ (by simp)
  have BW := Lib.hid (show Below w.heap.size w W by rw [← hW]; exact bl_alloc (bl_alloc (Below.refl _ _) _) _)
  have R1 := Lib.hid r1
  have R2 := Lib.hid r2
  clear r1 r2
  obtain ⟨p0, p1, p2, p3⟩ := cells4 R1.out
  obtain ⟨m0, m1, m2, m3⟩ := cells4 R2.out
  have hs2 : w.heap.size + 1 < W.heap.size := R2.out.lt
  have G0 := Lib.hid (cells4 R1.out)
  have G1 := Lib.hid (cells4 R1.out.drew)
  go_enter Tryz.func32, Tryz.ntmps32
  go_wp2_with fail
  clear hW
  refine wp_region_held_drew (S := fun w' => w'.cell? ⟨w.heap.size, 0, none⟩ = some (.int .i64 ck) ∧ w'.cell? ⟨w.heap.size, 1, none⟩ = some (.int .i64 ct) ∧ w'.cell? ⟨w.heap.size, 2, none⟩ = some (.int .i64 cn) ∧ w'.cell? ⟨w.heap.size, 3, none⟩ = some (.string cs)) (by kernel_rfl) (cells4 R1.out) (fun hH0 => ?_)
  refine wpAnyH_take (i := 0) (oi := _) (v := ?_) (by simp only [List.getElem?_toArray, List.getElem?_cons_succ, List.getElem?_cons_zero]; rfl) (by kernel_rfl) (by kernel_rfl) (by kernel_rfl) (by exact fun _ _ _ h => h) (Or.inl ⟨by rfl, ?_⟩) (by assumption) ?_
  rotate_left
  · (intro w hSw; (try dsimp only at hSw); go_simp; try with_reducible rfl)
  try simp only [Act.put, List.setIfInBounds_toArray, List.set_cons_zero, List.set_cons_succ]
  refine wpAnyH_ready (rs := [1]) (by kernel_rfl) (by simp) ?_
  refine AllReadyH.cons rfl (fun K hK => ?_) AllReadyH.nil
  go_simp
  refine (numberOf_any 0 _).mono ?_
  rintro e w3 ⟨rfl, b3⟩
  have S1 := Lib.hid (R1.out.drew.below b3 R1.out.lt)
  have B3 := Lib.hid (bl_call (bl_drew BW.out) b3)
  clear b3
  go_wp2_with fail
  refine hK.out _ _ (cells4 S1.out) (fun hH1 => ?_)
  clear hK K hH0
  try simp only [Act.put, List.setIfInBounds_toArray, List.set_cons_zero, List.set_cons_succ]
  refine wpAnyH_take (i := 2) (oi := _) (v := ?_) (by simp only [List.getElem?_toArray, List.getElem?_cons_succ, List.getElem?_cons_zero]; rfl) (by kernel_rfl) (by kernel_rfl) (by kernel_rfl) (by exact fun _ _ _ h => h) (Or.inl ⟨by rfl, ?_⟩) (by assumption) ?_
  rotate_left
  · (intro w hSw; (try dsimp only at hSw); go_simp; try with_reducible rfl)
  try simp only [Act.put, List.setIfInBounds_toArray, List.set_cons_zero, List.set_cons_succ]
  refine wpAnyH_take (i := 3) (oi := _) (v := ?_) (by simp only [List.getElem?_toArray, List.getElem?_cons_succ, List.getElem?_cons_zero]; rfl) (by kernel_rfl) (by kernel_rfl) (by kernel_rfl) (by exact fun _ _ _ h => h) (Or.inl ⟨by rfl, ?_⟩) (by assumption) ?_
  rotate_left
  · (intro w hSw; (try dsimp only at hSw); go_simp; try with_reducible rfl)
  try simp only [Act.put, List.setIfInBounds_toArray, List.set_cons_zero, List.set_cons_succ]
  refine wpAnyH_take (i := 4) (oi := _) (v := ?_) (by simp only [List.getElem?_toArray, List.getElem?_cons_succ, List.getElem?_cons_zero]; rfl) (by kernel_rfl) (by kernel_rfl) (by kernel_rfl) (by exact fun _ _ _ h => h) (Or.inl ⟨by rfl, ?_⟩) (by assumption) ?_
  rotate_left
  · (intro w hSw; (try dsimp only at hSw); go_simp; try with_reducible rfl)
  try simp only [Act.put, List.setIfInBounds_toArray, List.set_cons_zero, List.set_cons_succ]
  refine wpAnyH_ready (rs := [5]) (by kernel_rfl) (by simp) ?_
  refine AllReadyH.cons rfl (fun K hK => ?_) AllReadyH.nil
  go_simp
  refine (numberOf_any 1 _).mono ?_
  rintro e w4 ⟨rfl, b4⟩
  have S4 := Lib.hid (S1.out.below b4 S1.out.lt)
  have B4 := Lib.hid (bl_call B3.out b4)
  clear b4
  go_wp2_with fail
  refine hK.out _ _ (cells4 S4.out) (fun hH2 => ?_)
  clear hK K hH1
  try simp only [Act.put, List.setIfInBounds_toArray, List.set_cons_zero, List.set_cons_succ]
  refine wpAnyH_take (i := 6) (oi := _) (v := ?_) (by simp only [List.getElem?_toArray, List.getElem?_cons_succ, List.getElem?_cons_zero]; rfl) (by kernel_rfl) (by kernel_rfl) (by kernel_rfl) (by exact fun _ _ _ h => h) (Or.inl ⟨by rfl, ?_⟩) (by assumption) ?_
  rotate_left
  · (intro w hSw; (try dsimp only at hSw); go_simp; try with_reducible rfl)
  try simp only [Act.put, List.setIfInBounds_toArray, List.set_cons_zero, List.set_cons_succ]
  refine wpAnyH_take (i := 7) (oi := _) (v := ?_) (by simp only [List.getElem?_toArray, List.getElem?_cons_succ, List.getElem?_cons_zero]; rfl) (by kernel_rfl) (by kernel_rfl) (by kernel_rfl) (by exact fun _ _ _ h => h) (Or.inl ⟨by rfl, ?_⟩) (by assumption) ?_
  rotate_left
  · (intro w hSw; (try dsimp only at hSw); go_simp; try with_reducible rfl)
  try simp only [Act.put, List.setIfInBounds_toArray, List.set_cons_zero, List.set_cons_succ]
  refine wpAnyH_take (i := 8) (oi := _) (v := ?_) (by simp only [List.getElem?_toArray, List.getElem?_cons_succ, List.getElem?_cons_zero]; rfl) (by kernel_rfl) (by kernel_rfl) (by kernel_rfl) (by exact fun _ _ _ h => h) (Or.inl ⟨by rfl, ?_⟩) (by assumption) ?_
  rotate_left
  · (intro w hSw; (try dsimp only at hSw); go_simp; try with_reducible rfl)
  try simp only [Act.put, List.setIfInBounds_toArray, List.set_cons_zero, List.set_cons_succ]
  refine wpAnyH_take (i := 9) (oi := _) (v := ?_) (by simp only [List.getElem?_toArray, List.getElem?_cons_succ, List.getElem?_cons_zero]; rfl) (by kernel_rfl) (by kernel_rfl) (by kernel_rfl) (by exact fun _ _ _ h => h) (Or.inl ⟨by rfl, ?_⟩) (by assumption) ?_
  rotate_left
  · (intro w hSw; (try dsimp only at hSw); go_simp; try with_reducible rfl)
  try simp only [Act.put, List.setIfInBounds_toArray, List.set_cons_zero, List.set_cons_succ]
  refine wpAnyH_done (by kernel_rfl) ?_ _
  all_goals
   go_wp2_with fail
   refine bodyPost_ret (v := .tuple #[.slice none 0 0, .bool bb]) (by simp [results, Tryz.results32, go_sem]) rfl ⟨_, _, rfl, B4.out, ?_⟩
   cases bb
   · exact .inr ⟨by rw [E.out, if_neg (fun e => by have := IFF.out.2 e; rw [HBB.out] at this; cases this)], rfl⟩
   · exact .inl ⟨[], none, 0, by rw [E.out, if_pos (IFF.out.1 HBB.out)], rfl, rfl, ⟨rfl, .inl ⟨rfl, rfl⟩⟩⟩
theorem fit_2 {S : Nat → Prop} {w : World} {v : Value} {f : List PFm} (h : fmsAt S w v f) {k : Nat} {a b : Int} {cons : List Int} (hk : f[k]? = some (2, a, b, cons)) (c : PCe) :
    Calls Tryz.prog 32 #[v, .int .i64 (k : Int), ceV c] w (FitT (fitP f k c) w) := by
  by_cases hc : c = numCe 0
  · exact fit_2_nil h hk c hc
  · exact fit_2_one h hk c hc
end Go.Proofs.YtajkkinolpkfmaaGreatDoor

/-
  Package data: what a form with constructors says of a cell ('fitData').
  Conditions: as each states.
-/
namespace Go.Proofs.YtajkkinolpkfmaaGreatDoor
set_option linter.unusedVariables false
set_option linter.unusedSimpArgs false
open Go.ChangeShapes Go.WideShapes Go.ChangeAt Go.RowKit
set_option maxRecDepth 100000

theorem ints_cell {S : Nat → Prop} {w : World} {v : Value} {l : List Int} (h : rdAt S w v l.length (intsV l)) {j : Nat} {x : Int} (hx : l[j]? = some x) : ∃ b o cap, v = .slice (some ⟨b, o, none⟩) l.length cap ∧ b < w.heap.size ∧ w.cell? ⟨b, o + j, none⟩ = some (.int .i64 x) := by
  obtain ⟨a, cap, rfl, h⟩ := h
  rcases h with h0 | ⟨b, o, rfl, hS, hb, hc⟩
  · have := (List.getElem?_eq_some_iff.1 hx).1; omega
  · exact ⟨b, o, cap, rfl, hb, hc j _ (by simp [intsV, hx])⟩
set_option maxHeartbeats 16000000 in
theorem fitD_out {S : Nat → Prop} {w : World} {va : Value} {cons : List Int} (hr : rdAt S w va cons.length (intsV cons)) (ct n : Int) (cs : ByteArray) (hn : ¬ (0 ≤ n ∧ n < (cons.length : Int))) :
    Calls Tryz.prog 65 #[va, ceV (0, ct, n, cs)] w (FitT none w) := by
  obtain ⟨ca, cc, rfl⟩ := hr.slice
  clear hr
  have BB := Lib.hid (fun o => bl_alloc (Below.refl w.heap.size w) o)
  by_cases n0 : 0 ≤ n
  · have d0 : decide (0 ≤ n) = true := decide_eq_true n0
    have d1 : decide (n < (cons.length : Int)) = false := decide_eq_false (fun h => hn ⟨n0, h⟩)
    clear hn n0
    go_enter Tryz.func65, Tryz.ntmps65
    go_wp2_with fail
    go_quiet (fail)
    go_wp2_with fail
    refine bodyPost_ret (v := .tuple #[.slice none 0 0, .bool false]) (by simp [results, Tryz.results65, go_sem]) rfl ⟨_, _, rfl, below_draws (BB.out _) _, .inr ⟨rfl, rfl⟩⟩
  · have d0 : decide (0 ≤ n) = false := decide_eq_false n0
    clear hn n0
    go_enter Tryz.func65, Tryz.ntmps65
    go_wp2_with fail
    go_quiet (fail)
    go_wp2_with fail
    refine bodyPost_ret (v := .tuple #[.slice none 0 0, .bool false]) (by simp [results, Tryz.results65, go_sem]) rfl ⟨_, _, rfl, below_draws (BB.out _) _, .inr ⟨rfl, rfl⟩⟩
set_option maxHeartbeats 16000000 in
theorem fitD_in {S : Nat → Prop} {w : World} {va : Value} {cons : List Int} (hr : rdAt S w va cons.length (intsV cons)) (ct : Int) (j : Nat) (cs : ByteArray) {x : Int} (hx : cons[j]? = some x) :
    Calls Tryz.prog 65 #[va, ceV (0, ct, (j : Int), cs)] w (FitT (if x = -1 then some [] else none) w) := by
  obtain ⟨b, o, cap, rfl, hb, e0⟩ := ints_cell hr hx
  have hlt := (List.getElem?_eq_some_iff.1 hx).1
  clear hr hx
  have BB := Lib.hid (fun o => bl_alloc (Below.refl w.heap.size w) o)
  have d1 : decide ((j : Int) < (cons.length : Int)) = true := decide_eq_true (by omega)
  have hjI : (j : Int) < (cons.length : Int) := by omega
  have hm : j * 1 = j := Nat.mul_one j
  by_cases h1 : x = -1
  · subst h1
    go_enter Tryz.func65, Tryz.ntmps65
    go_wp2_with fail
    go_quiet (fail)
    go_wp2_with fail
    refine bodyPost_ret (v := .tuple #[.slice none 0 0, .bool true]) (by simp [results, Tryz.results65, go_sem]) rfl ⟨_, _, rfl, below_draws (BB.out _) _, .inl ⟨[], none, 0, rfl, rfl, rfl, ⟨rfl, .inl ⟨rfl, rfl⟩⟩⟩⟩
  · have t1 : (x == -1) = false := beq_eq_false_iff_ne.2 h1
    have IFN := Lib.hid (show (if x = -1 then some ([] : List Int) else none) = none from if_neg h1)
    rw [IFN.out]
    clear h1
    go_enter Tryz.func65, Tryz.ntmps65
    go_wp2_with fail
    go_quiet (fail)
    go_wp2_with fail
    refine bodyPost_ret (v := .tuple #[.slice none 0 0, .bool false]) (by simp [results, Tryz.results65, go_sem]) rfl ⟨_, _, rfl, below_draws (BB.out _) _, .inr ⟨rfl, rfl⟩⟩
end Go.Proofs.YtajkkinolpkfmaaGreatDoor

/-
  Package data: what a form with constructors says of a cell that is no number ('fitData').
  Conditions: as each states.
-/
namespace Go.Proofs.YtajkkinolpkfmaaGreatDoor
set_option linter.unusedVariables false
set_option linter.unusedSimpArgs false
open Go.ChangeShapes Go.WideShapes Go.ChangeAt Go.RowKit
set_option maxRecDepth 100000

set_option maxHeartbeats 16000000 in
theorem fitD_far {S : Nat → Prop} {w : World} {va : Value} {cons : List Int} (hr : rdAt S w va cons.length (intsV cons)) (ck ct n : Int) (cs : ByteArray) (hk : ck ≠ 0) (hn : ¬ ct < (cons.length : Int)) :
    Calls Tryz.prog 65 #[va, ceV (ck, ct, n, cs)] w (FitT none w) := by
  obtain ⟨ca, cc, rfl⟩ := hr.slice
  clear hr
  have BB := Lib.hid (fun o => bl_alloc (Below.refl w.heap.size w) o)
  have t0 : (ck == 0) = false := beq_eq_false_iff_ne.2 hk
  have d1 : decide ((cons.length : Int) ≤ ct) = true := decide_eq_true (by omega)
  clear hk hn
  go_enter Tryz.func65, Tryz.ntmps65
  go_wp2_with fail
  go_quiet (fail)
  go_wp2_with fail
  refine bodyPost_ret (v := .tuple #[.slice none 0 0, .bool false]) (by simp [results, Tryz.results65, go_sem]) rfl ⟨_, _, rfl, below_draws (BB.out _) _, .inr ⟨rfl, rfl⟩⟩
set_option maxHeartbeats 16000000 in
theorem fitD_else {S : Nat → Prop} {w : World} {va : Value} {cons : List Int} (hr : rdAt S w va cons.length (intsV cons)) (ck ct n : Int) (cs : ByteArray) (hk : ck ≠ 0) (hn : ct < (cons.length : Int)) (hc : (ck, ct, n, cs) ≠ blkCe ct 1) :
    Calls Tryz.prog 65 #[va, ceV (ck, ct, n, cs)] w (FitT none w) := by
  obtain ⟨ca, cc, rfl⟩ := hr.slice
  clear hr
  have t0 : (ck == 0) = false := beq_eq_false_iff_ne.2 hk
  have d1 : decide ((cons.length : Int) ≤ ct) = false := decide_eq_false (by omega)
  have q2 : ∀ w, (Op.equalIn 10000 33 (.agg #[.int .i64 ck, .int .i64 ct, .int .i64 n, .string cs]) (.agg #[.int .i64 1, .int .i64 ct, .int .i64 1, .string ⟨#[]⟩])).run Tryz.prog w = .ok false w := fun w => by rw [run_ce_eq]; exact congrArg (Result.ok · w) (ceEq_false hc)
  clear hk hn hc
  obtain ⟨W, hW⟩ : ∃ W, w.alloc (.cells #[.int .i64 ck, .int .i64 ct, .int .i64 n, .string cs] 33) = W := ⟨_, rfl⟩
  have R1 := Lib.hid (show rowAt W w.heap.size 33 [.int .i64 ck, .int .i64 ct, .int .i64 n, .string cs] by rw [← hW]; exact rowAt.made _ _ _)
  have BW := Lib.hid (show Below w.heap.size w W by rw [← hW]; exact bl_alloc (Below.refl _ _) _)
  obtain ⟨p0, p1, p2, p3⟩ := cells4 R1.out
  go_enter Tryz.func65, Tryz.ntmps65
  go_wp2_with fail
  clear hW
  refine wp_region_held_drew (S := fun w' => w'.cell? ⟨w.heap.size, 0, none⟩ = some (.int .i64 ck) ∧ w'.cell? ⟨w.heap.size, 1, none⟩ = some (.int .i64 ct) ∧ w'.cell? ⟨w.heap.size, 2, none⟩ = some (.int .i64 n) ∧ w'.cell? ⟨w.heap.size, 3, none⟩ = some (.string cs)) (by kernel_rfl) (cells4 R1.out) (fun hH0 => ?_)
  refine wpAnyH_take (i := 0) (oi := _) (v := ?_) (by simp only [List.getElem?_toArray, List.getElem?_cons_succ, List.getElem?_cons_zero]; rfl) (by kernel_rfl) (by kernel_rfl) (by kernel_rfl) (by exact fun _ _ _ h => h) (Or.inl ⟨by rfl, ?_⟩) (by assumption) ?_
  rotate_left
  · (intro w hSw; (try dsimp only at hSw); go_simp; try with_reducible rfl)
  try simp only [Act.put, List.setIfInBounds_toArray, List.set_cons_zero, List.set_cons_succ]
  refine wpAnyH_take (i := 1) (oi := _) (v := ?_) (by simp only [List.getElem?_toArray, List.getElem?_cons_succ, List.getElem?_cons_zero]; rfl) (by kernel_rfl) (by kernel_rfl) (by kernel_rfl) (by exact fun _ _ _ h => h) (Or.inl ⟨by rfl, ?_⟩) (by assumption) ?_
  rotate_left
  · (intro w hSw; (try dsimp only at hSw); go_simp; try with_reducible rfl)
  try simp only [Act.put, List.setIfInBounds_toArray, List.set_cons_zero, List.set_cons_succ]
  refine wpAnyH_take (i := 2) (oi := _) (v := ?_) (by simp only [List.getElem?_toArray, List.getElem?_cons_succ, List.getElem?_cons_zero]; rfl) (by kernel_rfl) (by kernel_rfl) (by kernel_rfl) (by exact fun _ _ _ h => h) (Or.inl ⟨by rfl, ?_⟩) (by assumption) ?_
  rotate_left
  · (intro w hSw; (try dsimp only at hSw); go_simp; try with_reducible rfl)
  try simp only [Act.put, List.setIfInBounds_toArray, List.set_cons_zero, List.set_cons_succ]
  refine wpAnyH_take (i := 3) (oi := _) (v := ?_) (by simp only [List.getElem?_toArray, List.getElem?_cons_succ, List.getElem?_cons_zero]; rfl) (by kernel_rfl) (by kernel_rfl) (by kernel_rfl) (by exact fun _ _ _ h => h) (Or.inl ⟨by rfl, ?_⟩) (by assumption) ?_
  rotate_left
  · (intro w hSw; (try dsimp only at hSw); go_simp; try with_reducible rfl)
  try simp only [Act.put, List.setIfInBounds_toArray, List.set_cons_zero, List.set_cons_succ]
  refine wpAnyH_take (i := 4) (oi := _) (v := ?_) (by simp only [List.getElem?_toArray, List.getElem?_cons_succ, List.getElem?_cons_zero]; rfl) (by kernel_rfl) (by kernel_rfl) (by kernel_rfl) (by exact fun _ _ _ h => h) (Or.inl ⟨by rfl, ?_⟩) (by assumption) ?_
  rotate_left
  · (intro w hSw; (try dsimp only at hSw); go_simp; try with_reducible rfl)
  try simp only [Act.put, List.setIfInBounds_toArray, List.set_cons_zero, List.set_cons_succ]
  refine wpAnyH_take (i := 5) (oi := _) (v := ?_) (by simp only [List.getElem?_toArray, List.getElem?_cons_succ, List.getElem?_cons_zero]; rfl) (by kernel_rfl) (by kernel_rfl) (by kernel_rfl) (by exact fun _ _ _ h => h) (Or.inl ⟨by rfl, ?_⟩) (by assumption) ?_
  rotate_left
  · (intro w hSw; (try dsimp only at hSw); go_simp; try with_reducible rfl)
  try simp only [Act.put, List.setIfInBounds_toArray, List.set_cons_zero, List.set_cons_succ]
  refine wpAnyH_take (i := 6) (oi := _) (v := ?_) (by simp only [List.getElem?_toArray, List.getElem?_cons_succ, List.getElem?_cons_zero]; rfl) (by kernel_rfl) (by kernel_rfl) (by kernel_rfl) (by exact fun _ _ _ h => h) (Or.inl ⟨by rfl, ?_⟩) (by assumption) ?_
  rotate_left
  · (intro w hSw; (try dsimp only at hSw); go_simp; try with_reducible rfl)
  try simp only [Act.put, List.setIfInBounds_toArray, List.set_cons_zero, List.set_cons_succ]
  refine wpAnyH_take (i := 7) (oi := _) (v := ?_) (by simp only [List.getElem?_toArray, List.getElem?_cons_succ, List.getElem?_cons_zero]; rfl) (by kernel_rfl) (by kernel_rfl) (by kernel_rfl) (by exact fun _ _ _ h => h) (Or.inl ⟨by rfl, ?_⟩) (by assumption) ?_
  rotate_left
  · (intro w hSw; (try dsimp only at hSw); go_simp; try with_reducible rfl)
  try simp only [Act.put, List.setIfInBounds_toArray, List.set_cons_zero, List.set_cons_succ]
  refine wpAnyH_take (i := 8) (oi := _) (v := ?_) (by simp only [List.getElem?_toArray, List.getElem?_cons_succ, List.getElem?_cons_zero]; rfl) (by kernel_rfl) (by kernel_rfl) (by kernel_rfl) (by exact fun _ _ _ h => h) (Or.inl ⟨by rfl, ?_⟩) (by assumption) ?_
  rotate_left
  · (intro w hSw; (try dsimp only at hSw); go_simp; try with_reducible rfl)
  try simp only [Act.put, List.setIfInBounds_toArray, List.set_cons_zero, List.set_cons_succ]
  refine wpAnyH_ready (rs := [9]) (by kernel_rfl) (by simp) ?_
  refine AllReadyH.cons rfl (fun K hK => ?_) AllReadyH.nil
  go_simp
  refine (blockOf_any ct 1 _).mono ?_
  rintro e w3 ⟨rfl, b3⟩
  have S1 := Lib.hid (R1.out.drew.below b3 R1.out.lt)
  have B3 := Lib.hid (bl_call (bl_drew BW.out) b3)
  clear b3
  go_wp2_with fail
  refine hK.out _ _ (cells4 S1.out) (fun hH1 => ?_)
  clear hK K hH0
  try simp only [Act.put, List.setIfInBounds_toArray, List.set_cons_zero, List.set_cons_succ]
  refine wpAnyH_take (i := 10) (oi := _) (v := ?_) (by simp only [List.getElem?_toArray, List.getElem?_cons_succ, List.getElem?_cons_zero]; rfl) (by kernel_rfl) (by kernel_rfl) (by kernel_rfl) (by exact fun _ _ _ h => h) (Or.inl ⟨by rfl, ?_⟩) (by assumption) ?_
  rotate_left
  · (intro w hSw; (try dsimp only at hSw); go_simp; try with_reducible rfl)
  try simp only [Act.put, List.setIfInBounds_toArray, List.set_cons_zero, List.set_cons_succ]
  refine wpAnyH_take (i := 11) (oi := _) (v := ?_) (by simp only [List.getElem?_toArray, List.getElem?_cons_succ, List.getElem?_cons_zero]; rfl) (by kernel_rfl) (by kernel_rfl) (by kernel_rfl) (by exact fun _ _ _ h => h) (Or.inl ⟨by rfl, ?_⟩) (by assumption) ?_
  rotate_left
  · (intro w hSw; (try dsimp only at hSw); go_simp; try with_reducible rfl)
  try simp only [Act.put, List.setIfInBounds_toArray, List.set_cons_zero, List.set_cons_succ]
  refine wpAnyH_take (i := 12) (oi := _) (v := ?_) (by simp only [List.getElem?_toArray, List.getElem?_cons_succ, List.getElem?_cons_zero]; rfl) (by kernel_rfl) (by kernel_rfl) (by kernel_rfl) (by exact fun _ _ _ h => h) (Or.inl ⟨by rfl, ?_⟩) (by assumption) ?_
  rotate_left
  · (intro w hSw; (try dsimp only at hSw); go_simp; try with_reducible rfl)
  try simp only [Act.put, List.setIfInBounds_toArray, List.set_cons_zero, List.set_cons_succ]
  refine wpAnyH_take (i := 13) (oi := _) (v := undef) (by simp only [List.getElem?_toArray, List.getElem?_cons_succ, List.getElem?_cons_zero]; rfl) (by kernel_rfl) (by kernel_rfl) (by kernel_rfl) (by exact fun _ _ _ h => h) (Or.inr ⟨by rfl, rfl⟩) (by assumption) ?_
  try simp only [Act.put, List.setIfInBounds_toArray, List.set_cons_zero, List.set_cons_succ]
  refine wpAnyH_take (i := 14) (oi := _) (v := undef) (by simp only [List.getElem?_toArray, List.getElem?_cons_succ, List.getElem?_cons_zero]; rfl) (by kernel_rfl) (by kernel_rfl) (by kernel_rfl) (by exact fun _ _ _ h => h) (Or.inr ⟨by rfl, rfl⟩) (by assumption) ?_
  try simp only [Act.put, List.setIfInBounds_toArray, List.set_cons_zero, List.set_cons_succ]
  refine wpAnyH_take (i := 15) (oi := _) (v := undef) (by simp only [List.getElem?_toArray, List.getElem?_cons_succ, List.getElem?_cons_zero]; rfl) (by kernel_rfl) (by kernel_rfl) (by kernel_rfl) (by exact fun _ _ _ h => h) (Or.inr ⟨by rfl, rfl⟩) (by assumption) ?_
  try simp only [Act.put, List.setIfInBounds_toArray, List.set_cons_zero, List.set_cons_succ]
  refine wpAnyH_take (i := 16) (oi := _) (v := undef) (by simp only [List.getElem?_toArray, List.getElem?_cons_succ, List.getElem?_cons_zero]; rfl) (by kernel_rfl) (by kernel_rfl) (by kernel_rfl) (by exact fun _ _ _ h => h) (Or.inr ⟨by rfl, rfl⟩) (by assumption) ?_
  try simp only [Act.put, List.setIfInBounds_toArray, List.set_cons_zero, List.set_cons_succ]
  refine wpAnyH_take (i := 17) (oi := _) (v := undef) (by simp only [List.getElem?_toArray, List.getElem?_cons_succ, List.getElem?_cons_zero]; rfl) (by kernel_rfl) (by kernel_rfl) (by kernel_rfl) (by exact fun _ _ _ h => h) (Or.inr ⟨by rfl, rfl⟩) (by assumption) ?_
  try simp only [Act.put, List.setIfInBounds_toArray, List.set_cons_zero, List.set_cons_succ]
  refine wpAnyH_take (i := 18) (oi := _) (v := undef) (by simp only [List.getElem?_toArray, List.getElem?_cons_succ, List.getElem?_cons_zero]; rfl) (by kernel_rfl) (by kernel_rfl) (by kernel_rfl) (by exact fun _ _ _ h => h) (Or.inr ⟨by rfl, rfl⟩) (by assumption) ?_
  try simp only [Act.put, List.setIfInBounds_toArray, List.set_cons_zero, List.set_cons_succ]
  refine wpAnyH_take (i := 19) (oi := _) (v := ?_) (by simp only [List.getElem?_toArray, List.getElem?_cons_succ, List.getElem?_cons_zero]; rfl) (by kernel_rfl) (by kernel_rfl) (by kernel_rfl) (by exact fun _ _ _ h => h) (Or.inl ⟨by rfl, ?_⟩) (by assumption) ?_
  rotate_left
  · (intro w hSw; (try dsimp only at hSw); go_simp; try with_reducible rfl)
  try simp only [Act.put, List.setIfInBounds_toArray, List.set_cons_zero, List.set_cons_succ]
  refine wpAnyH_done (by kernel_rfl) ?_ _
  go_wp2_with fail
  refine bodyPost_ret (v := .tuple #[.slice none 0 0, .bool false]) (by simp [results, Tryz.results65, go_sem]) rfl ⟨_, _, rfl, B3.out, .inr ⟨rfl, rfl⟩⟩
set_option maxHeartbeats 16000000 in
theorem fitD_con {S : Nat → Prop} {w : World} {va : Value} {cons : List Int} (hr : rdAt S w va cons.length (intsV cons)) {j : Nat} {x : Int} (hx : cons[j]? = some x) :
    Calls Tryz.prog 65 #[va, ceV (1, (j : Int), 1, ⟨#[]⟩)] w (FitT (if x = -1 then none else some [x]) w) := by
  obtain ⟨b, o, cap, rfl, hb, e0⟩ := ints_cell hr hx
  have hlt := (List.getElem?_eq_some_iff.1 hx).1
  clear hr hx
  have d1 : decide ((cons.length : Int) ≤ (j : Int)) = false := decide_eq_false (by omega)
  have d2 : decide (cons.length ≤ j) = false := decide_eq_false (by omega)
  have hjI : (j : Int) < (cons.length : Int) := by omega
  have q2 : ∀ w, (Op.equalIn 10000 33 (.agg #[.int .i64 1, .int .i64 (j : Int), .int .i64 1, .string ⟨#[]⟩]) (.agg #[.int .i64 1, .int .i64 (j : Int), .int .i64 1, .string ⟨#[]⟩])).run Tryz.prog w = .ok true w := fun w => by rw [run_ce_eq]; exact congrArg (Result.ok · w) ((ceEq_iff (blkCe (j : Int) 1) (blkCe (j : Int) 1)).2 rfl)
  obtain ⟨W, hW⟩ : ∃ W, w.alloc (.cells #[.int .i64 1, .int .i64 (j : Int), .int .i64 1, .string ⟨#[]⟩] 33) = W := ⟨_, rfl⟩
  have R1 := Lib.hid (show rowAt W w.heap.size 33 [.int .i64 1, .int .i64 (j : Int), .int .i64 1, .string ⟨#[]⟩] by rw [← hW]; exact rowAt.made _ _ _)
  have BW := Lib.hid (show Below w.heap.size w W by rw [← hW]; exact bl_alloc (Below.refl _ _) _)
  obtain ⟨p0, p1, p2, p3⟩ := cells4 R1.out
  have E0 := Lib.hid (show W.cell? ⟨b, o + j, none⟩ = some (.int .i64 x) from (BW.out.cell (p := ⟨b, o + j, none⟩) hb).trans e0)
  have hbW : b < W.heap.size := Nat.lt_of_lt_of_le hb BW.out.size
  clear e0
  by_cases h1 : x = -1
  · have t1 : (x == -1) = true := by rw [h1]; rfl
    rw [if_pos h1]
    clear h1
    go_enter Tryz.func65, Tryz.ntmps65
    go_wp2_with fail
    clear hW
    refine wp_region_held_drew (S := fun w' => (w'.cell? ⟨w.heap.size, 0, none⟩ = some (.int .i64 1) ∧ w'.cell? ⟨w.heap.size, 1, none⟩ = some (.int .i64 (j : Int)) ∧ w'.cell? ⟨w.heap.size, 2, none⟩ = some (.int .i64 1) ∧ w'.cell? ⟨w.heap.size, 3, none⟩ = some (.string ⟨#[]⟩)) ∧ w'.cell? ⟨b, o + j, none⟩ = some (.int .i64 x)) (by kernel_rfl) (⟨cells4 R1.out, E0.out⟩) (fun hH0 => ?_)
    refine wpAnyH_take (i := 0) (oi := _) (v := ?_) (by simp only [List.getElem?_toArray, List.getElem?_cons_succ, List.getElem?_cons_zero]; rfl) (by kernel_rfl) (by kernel_rfl) (by kernel_rfl) (by exact fun _ _ _ h => h) (Or.inl ⟨by rfl, ?_⟩) (by assumption) ?_
    rotate_left
    · (intro w hSw; (try dsimp only at hSw); go_simp; try with_reducible rfl)
    try simp only [Act.put, List.setIfInBounds_toArray, List.set_cons_zero, List.set_cons_succ]
    refine wpAnyH_take (i := 1) (oi := _) (v := ?_) (by simp only [List.getElem?_toArray, List.getElem?_cons_succ, List.getElem?_cons_zero]; rfl) (by kernel_rfl) (by kernel_rfl) (by kernel_rfl) (by exact fun _ _ _ h => h) (Or.inl ⟨by rfl, ?_⟩) (by assumption) ?_
    rotate_left
    · (intro w hSw; (try dsimp only at hSw); go_simp; try with_reducible rfl)
    try simp only [Act.put, List.setIfInBounds_toArray, List.set_cons_zero, List.set_cons_succ]
    refine wpAnyH_take (i := 2) (oi := _) (v := ?_) (by simp only [List.getElem?_toArray, List.getElem?_cons_succ, List.getElem?_cons_zero]; rfl) (by kernel_rfl) (by kernel_rfl) (by kernel_rfl) (by exact fun _ _ _ h => h) (Or.inl ⟨by rfl, ?_⟩) (by assumption) ?_
    rotate_left
    · (intro w hSw; (try dsimp only at hSw); go_simp; try with_reducible rfl)
    try simp only [Act.put, List.setIfInBounds_toArray, List.set_cons_zero, List.set_cons_succ]
    refine wpAnyH_take (i := 3) (oi := _) (v := ?_) (by simp only [List.getElem?_toArray, List.getElem?_cons_succ, List.getElem?_cons_zero]; rfl) (by kernel_rfl) (by kernel_rfl) (by kernel_rfl) (by exact fun _ _ _ h => h) (Or.inl ⟨by rfl, ?_⟩) (by assumption) ?_
    rotate_left
    · (intro w hSw; (try dsimp only at hSw); go_simp; try with_reducible rfl)
    try simp only [Act.put, List.setIfInBounds_toArray, List.set_cons_zero, List.set_cons_succ]
    refine wpAnyH_take (i := 4) (oi := _) (v := ?_) (by simp only [List.getElem?_toArray, List.getElem?_cons_succ, List.getElem?_cons_zero]; rfl) (by kernel_rfl) (by kernel_rfl) (by kernel_rfl) (by exact fun _ _ _ h => h) (Or.inl ⟨by rfl, ?_⟩) (by assumption) ?_
    rotate_left
    · (intro w hSw; (try dsimp only at hSw); go_simp; try with_reducible rfl)
    try simp only [Act.put, List.setIfInBounds_toArray, List.set_cons_zero, List.set_cons_succ]
    refine wpAnyH_take (i := 5) (oi := _) (v := ?_) (by simp only [List.getElem?_toArray, List.getElem?_cons_succ, List.getElem?_cons_zero]; rfl) (by kernel_rfl) (by kernel_rfl) (by kernel_rfl) (by exact fun _ _ _ h => h) (Or.inl ⟨by rfl, ?_⟩) (by assumption) ?_
    rotate_left
    · (intro w hSw; (try dsimp only at hSw); go_simp; try with_reducible rfl)
    try simp only [Act.put, List.setIfInBounds_toArray, List.set_cons_zero, List.set_cons_succ]
    refine wpAnyH_take (i := 6) (oi := _) (v := ?_) (by simp only [List.getElem?_toArray, List.getElem?_cons_succ, List.getElem?_cons_zero]; rfl) (by kernel_rfl) (by kernel_rfl) (by kernel_rfl) (by exact fun _ _ _ h => h) (Or.inl ⟨by rfl, ?_⟩) (by assumption) ?_
    rotate_left
    · (intro w hSw; (try dsimp only at hSw); go_simp; try with_reducible rfl)
    try simp only [Act.put, List.setIfInBounds_toArray, List.set_cons_zero, List.set_cons_succ]
    refine wpAnyH_take (i := 7) (oi := _) (v := ?_) (by simp only [List.getElem?_toArray, List.getElem?_cons_succ, List.getElem?_cons_zero]; rfl) (by kernel_rfl) (by kernel_rfl) (by kernel_rfl) (by exact fun _ _ _ h => h) (Or.inl ⟨by rfl, ?_⟩) (by assumption) ?_
    rotate_left
    · (intro w hSw; (try dsimp only at hSw); go_simp; try with_reducible rfl)
    try simp only [Act.put, List.setIfInBounds_toArray, List.set_cons_zero, List.set_cons_succ]
    refine wpAnyH_take (i := 8) (oi := _) (v := ?_) (by simp only [List.getElem?_toArray, List.getElem?_cons_succ, List.getElem?_cons_zero]; rfl) (by kernel_rfl) (by kernel_rfl) (by kernel_rfl) (by exact fun _ _ _ h => h) (Or.inl ⟨by rfl, ?_⟩) (by assumption) ?_
    rotate_left
    · (intro w hSw; (try dsimp only at hSw); go_simp; try with_reducible rfl)
    try simp only [Act.put, List.setIfInBounds_toArray, List.set_cons_zero, List.set_cons_succ]
    refine wpAnyH_ready (rs := [9]) (by kernel_rfl) (by simp) ?_
    refine AllReadyH.cons rfl (fun K hK => ?_) AllReadyH.nil
    go_simp
    refine (blockOf_any (j : Int) 1 _).mono ?_
    rintro e w3 ⟨rfl, b3⟩
    have S1 := Lib.hid (R1.out.drew.below b3 R1.out.lt)
    have B3 := Lib.hid (bl_call (bl_drew BW.out) b3)
    have E3 := Lib.hid (show w3.cell? ⟨b, o + j, none⟩ = some (.int .i64 x) from (Below.cell (p := ⟨b, o + j, none⟩) b3 (by simpa using hbW)).trans E0.out)
    clear b3
    go_wp2_with fail
    refine hK.out _ _ (⟨cells4 S1.out, E3.out⟩) (fun hH1 => ?_)
    clear hK K hH0
    try simp only [Act.put, List.setIfInBounds_toArray, List.set_cons_zero, List.set_cons_succ]
    refine wpAnyH_take (i := 10) (oi := _) (v := ?_) (by simp only [List.getElem?_toArray, List.getElem?_cons_succ, List.getElem?_cons_zero]; rfl) (by kernel_rfl) (by kernel_rfl) (by kernel_rfl) (by exact fun _ _ _ h => h) (Or.inl ⟨by rfl, ?_⟩) (by assumption) ?_
    rotate_left
    · (intro w hSw; (try dsimp only at hSw); go_simp; try with_reducible rfl)
    try simp only [Act.put, List.setIfInBounds_toArray, List.set_cons_zero, List.set_cons_succ]
    refine wpAnyH_take (i := 11) (oi := _) (v := ?_) (by simp only [List.getElem?_toArray, List.getElem?_cons_succ, List.getElem?_cons_zero]; rfl) (by kernel_rfl) (by kernel_rfl) (by kernel_rfl) (by exact fun _ _ _ h => h) (Or.inl ⟨by rfl, ?_⟩) (by assumption) ?_
    rotate_left
    · (intro w hSw; (try dsimp only at hSw); go_simp; try with_reducible rfl)
    try simp only [Act.put, List.setIfInBounds_toArray, List.set_cons_zero, List.set_cons_succ]
    refine wpAnyH_take (i := 12) (oi := _) (v := ?_) (by simp only [List.getElem?_toArray, List.getElem?_cons_succ, List.getElem?_cons_zero]; rfl) (by kernel_rfl) (by kernel_rfl) (by kernel_rfl) (by exact fun _ _ _ h => h) (Or.inl ⟨by rfl, ?_⟩) (by assumption) ?_
    rotate_left
    · (intro w hSw; (try dsimp only at hSw); go_simp; try with_reducible rfl)
    try simp only [Act.put, List.setIfInBounds_toArray, List.set_cons_zero, List.set_cons_succ]
    refine wpAnyH_take (i := 13) (oi := _) (v := ?_) (by simp only [List.getElem?_toArray, List.getElem?_cons_succ, List.getElem?_cons_zero]; rfl) (by kernel_rfl) (by kernel_rfl) (by kernel_rfl) (by exact fun _ _ _ h => h) (Or.inl ⟨by rfl, ?_⟩) (by assumption) ?_
    rotate_left
    · (intro w hSw; (try dsimp only at hSw); go_simp; try with_reducible rfl)
    try simp only [Act.put, List.setIfInBounds_toArray, List.set_cons_zero, List.set_cons_succ]
    refine wpAnyH_take (i := 14) (oi := _) (v := ?_) (by simp only [List.getElem?_toArray, List.getElem?_cons_succ, List.getElem?_cons_zero]; rfl) (by kernel_rfl) (by kernel_rfl) (by kernel_rfl) (by exact fun _ _ _ h => h) (Or.inl ⟨by rfl, ?_⟩) (by assumption) ?_
    rotate_left
    · (intro w hSw; (try dsimp only at hSw); go_simp; try with_reducible rfl)
    try simp only [Act.put, List.setIfInBounds_toArray, List.set_cons_zero, List.set_cons_succ]
    refine wpAnyH_take (i := 15) (oi := _) (v := ?_) (by simp only [List.getElem?_toArray, List.getElem?_cons_succ, List.getElem?_cons_zero]; rfl) (by kernel_rfl) (by kernel_rfl) (by kernel_rfl) (by exact fun _ _ _ h => h) (Or.inl ⟨by rfl, ?_⟩) (by assumption) ?_
    rotate_left
    · (intro w hSw; (try dsimp only at hSw); go_simp; try with_reducible rfl)
    try simp only [Act.put, List.setIfInBounds_toArray, List.set_cons_zero, List.set_cons_succ]
    refine wpAnyH_take (i := 16) (oi := _) (v := ?_) (by simp only [List.getElem?_toArray, List.getElem?_cons_succ, List.getElem?_cons_zero]; rfl) (by kernel_rfl) (by kernel_rfl) (by kernel_rfl) (by exact fun _ _ _ h => h) (Or.inl ⟨by rfl, ?_⟩) (by assumption) ?_
    rotate_left
    · (intro w hSw; (try dsimp only at hSw); go_simp; try with_reducible rfl)
    try simp only [Act.put, List.setIfInBounds_toArray, List.set_cons_zero, List.set_cons_succ]
    refine wpAnyH_take (i := 17) (oi := _) (v := ?_) (by simp only [List.getElem?_toArray, List.getElem?_cons_succ, List.getElem?_cons_zero]; rfl) (by kernel_rfl) (by kernel_rfl) (by kernel_rfl) (by exact fun _ _ _ h => h) (Or.inl ⟨by rfl, ?_⟩) (by assumption) ?_
    rotate_left
    · (intro w hSw; (try dsimp only at hSw); go_simp; try with_reducible rfl)
    try simp only [Act.put, List.setIfInBounds_toArray, List.set_cons_zero, List.set_cons_succ]
    refine wpAnyH_take (i := 18) (oi := _) (v := ?_) (by simp only [List.getElem?_toArray, List.getElem?_cons_succ, List.getElem?_cons_zero]; rfl) (by kernel_rfl) (by kernel_rfl) (by kernel_rfl) (by exact fun _ _ _ h => h) (Or.inl ⟨by rfl, ?_⟩) (by assumption) ?_
    rotate_left
    · (intro w hSw; (try dsimp only at hSw); go_simp; try with_reducible rfl)
    try simp only [Act.put, List.setIfInBounds_toArray, List.set_cons_zero, List.set_cons_succ]
    refine wpAnyH_take (i := 19) (oi := _) (v := ?_) (by simp only [List.getElem?_toArray, List.getElem?_cons_succ, List.getElem?_cons_zero]; rfl) (by kernel_rfl) (by kernel_rfl) (by kernel_rfl) (by exact fun _ _ _ h => h) (Or.inl ⟨by rfl, ?_⟩) (by assumption) ?_
    rotate_left
    · (intro w hSw; (try dsimp only at hSw); go_simp; try with_reducible rfl)
    try simp only [Act.put, List.setIfInBounds_toArray, List.set_cons_zero, List.set_cons_succ]
    refine wpAnyH_done (by kernel_rfl) ?_ _
    go_wp2_with fail
    refine bodyPost_ret (v := .tuple #[.slice none 0 0, .bool false]) (by simp [results, Tryz.results65, go_sem]) rfl ⟨_, _, rfl, B3.out, .inr ⟨rfl, rfl⟩⟩
  · have t1 : (x == -1) = false := beq_eq_false_iff_ne.2 h1
    rw [if_neg h1]
    clear h1
    go_enter Tryz.func65, Tryz.ntmps65
    go_wp2_with fail
    clear hW
    refine wp_region_held_drew (S := fun w' => (w'.cell? ⟨w.heap.size, 0, none⟩ = some (.int .i64 1) ∧ w'.cell? ⟨w.heap.size, 1, none⟩ = some (.int .i64 (j : Int)) ∧ w'.cell? ⟨w.heap.size, 2, none⟩ = some (.int .i64 1) ∧ w'.cell? ⟨w.heap.size, 3, none⟩ = some (.string ⟨#[]⟩)) ∧ w'.cell? ⟨b, o + j, none⟩ = some (.int .i64 x)) (by kernel_rfl) (⟨cells4 R1.out, E0.out⟩) (fun hH0 => ?_)
    refine wpAnyH_take (i := 0) (oi := _) (v := ?_) (by simp only [List.getElem?_toArray, List.getElem?_cons_succ, List.getElem?_cons_zero]; rfl) (by kernel_rfl) (by kernel_rfl) (by kernel_rfl) (by exact fun _ _ _ h => h) (Or.inl ⟨by rfl, ?_⟩) (by assumption) ?_
    rotate_left
    · (intro w hSw; (try dsimp only at hSw); go_simp; try with_reducible rfl)
    try simp only [Act.put, List.setIfInBounds_toArray, List.set_cons_zero, List.set_cons_succ]
    refine wpAnyH_take (i := 1) (oi := _) (v := ?_) (by simp only [List.getElem?_toArray, List.getElem?_cons_succ, List.getElem?_cons_zero]; rfl) (by kernel_rfl) (by kernel_rfl) (by kernel_rfl) (by exact fun _ _ _ h => h) (Or.inl ⟨by rfl, ?_⟩) (by assumption) ?_
    rotate_left
    · (intro w hSw; (try dsimp only at hSw); go_simp; try with_reducible rfl)
    try simp only [Act.put, List.setIfInBounds_toArray, List.set_cons_zero, List.set_cons_succ]
    refine wpAnyH_take (i := 2) (oi := _) (v := ?_) (by simp only [List.getElem?_toArray, List.getElem?_cons_succ, List.getElem?_cons_zero]; rfl) (by kernel_rfl) (by kernel_rfl) (by kernel_rfl) (by exact fun _ _ _ h => h) (Or.inl ⟨by rfl, ?_⟩) (by assumption) ?_
    rotate_left
    · (intro w hSw; (try dsimp only at hSw); go_simp; try with_reducible rfl)
    try simp only [Act.put, List.setIfInBounds_toArray, List.set_cons_zero, List.set_cons_succ]
    refine wpAnyH_take (i := 3) (oi := _) (v := ?_) (by simp only [List.getElem?_toArray, List.getElem?_cons_succ, List.getElem?_cons_zero]; rfl) (by kernel_rfl) (by kernel_rfl) (by kernel_rfl) (by exact fun _ _ _ h => h) (Or.inl ⟨by rfl, ?_⟩) (by assumption) ?_
    rotate_left
    · (intro w hSw; (try dsimp only at hSw); go_simp; try with_reducible rfl)
    try simp only [Act.put, List.setIfInBounds_toArray, List.set_cons_zero, List.set_cons_succ]
    refine wpAnyH_take (i := 4) (oi := _) (v := ?_) (by simp only [List.getElem?_toArray, List.getElem?_cons_succ, List.getElem?_cons_zero]; rfl) (by kernel_rfl) (by kernel_rfl) (by kernel_rfl) (by exact fun _ _ _ h => h) (Or.inl ⟨by rfl, ?_⟩) (by assumption) ?_
    rotate_left
    · (intro w hSw; (try dsimp only at hSw); go_simp; try with_reducible rfl)
    try simp only [Act.put, List.setIfInBounds_toArray, List.set_cons_zero, List.set_cons_succ]
    refine wpAnyH_take (i := 5) (oi := _) (v := ?_) (by simp only [List.getElem?_toArray, List.getElem?_cons_succ, List.getElem?_cons_zero]; rfl) (by kernel_rfl) (by kernel_rfl) (by kernel_rfl) (by exact fun _ _ _ h => h) (Or.inl ⟨by rfl, ?_⟩) (by assumption) ?_
    rotate_left
    · (intro w hSw; (try dsimp only at hSw); go_simp; try with_reducible rfl)
    try simp only [Act.put, List.setIfInBounds_toArray, List.set_cons_zero, List.set_cons_succ]
    refine wpAnyH_take (i := 6) (oi := _) (v := ?_) (by simp only [List.getElem?_toArray, List.getElem?_cons_succ, List.getElem?_cons_zero]; rfl) (by kernel_rfl) (by kernel_rfl) (by kernel_rfl) (by exact fun _ _ _ h => h) (Or.inl ⟨by rfl, ?_⟩) (by assumption) ?_
    rotate_left
    · (intro w hSw; (try dsimp only at hSw); go_simp; try with_reducible rfl)
    try simp only [Act.put, List.setIfInBounds_toArray, List.set_cons_zero, List.set_cons_succ]
    refine wpAnyH_take (i := 7) (oi := _) (v := ?_) (by simp only [List.getElem?_toArray, List.getElem?_cons_succ, List.getElem?_cons_zero]; rfl) (by kernel_rfl) (by kernel_rfl) (by kernel_rfl) (by exact fun _ _ _ h => h) (Or.inl ⟨by rfl, ?_⟩) (by assumption) ?_
    rotate_left
    · (intro w hSw; (try dsimp only at hSw); go_simp; try with_reducible rfl)
    try simp only [Act.put, List.setIfInBounds_toArray, List.set_cons_zero, List.set_cons_succ]
    refine wpAnyH_take (i := 8) (oi := _) (v := ?_) (by simp only [List.getElem?_toArray, List.getElem?_cons_succ, List.getElem?_cons_zero]; rfl) (by kernel_rfl) (by kernel_rfl) (by kernel_rfl) (by exact fun _ _ _ h => h) (Or.inl ⟨by rfl, ?_⟩) (by assumption) ?_
    rotate_left
    · (intro w hSw; (try dsimp only at hSw); go_simp; try with_reducible rfl)
    try simp only [Act.put, List.setIfInBounds_toArray, List.set_cons_zero, List.set_cons_succ]
    refine wpAnyH_ready (rs := [9]) (by kernel_rfl) (by simp) ?_
    refine AllReadyH.cons rfl (fun K hK => ?_) AllReadyH.nil
    go_simp
    refine (blockOf_any (j : Int) 1 _).mono ?_
    rintro e w3 ⟨rfl, b3⟩
    have S1 := Lib.hid (R1.out.drew.below b3 R1.out.lt)
    have B3 := Lib.hid (bl_call (bl_drew BW.out) b3)
    have E3 := Lib.hid (show w3.cell? ⟨b, o + j, none⟩ = some (.int .i64 x) from (Below.cell (p := ⟨b, o + j, none⟩) b3 (by simpa using hbW)).trans E0.out)
    clear b3
    go_wp2_with fail
    refine hK.out _ _ (⟨cells4 S1.out, E3.out⟩) (fun hH1 => ?_)
    clear hK K hH0
    try simp only [Act.put, List.setIfInBounds_toArray, List.set_cons_zero, List.set_cons_succ]
    refine wpAnyH_take (i := 10) (oi := _) (v := ?_) (by simp only [List.getElem?_toArray, List.getElem?_cons_succ, List.getElem?_cons_zero]; rfl) (by kernel_rfl) (by kernel_rfl) (by kernel_rfl) (by exact fun _ _ _ h => h) (Or.inl ⟨by rfl, ?_⟩) (by assumption) ?_
    rotate_left
    · (intro w hSw; (try dsimp only at hSw); go_simp; try with_reducible rfl)
    try simp only [Act.put, List.setIfInBounds_toArray, List.set_cons_zero, List.set_cons_succ]
    refine wpAnyH_take (i := 11) (oi := _) (v := ?_) (by simp only [List.getElem?_toArray, List.getElem?_cons_succ, List.getElem?_cons_zero]; rfl) (by kernel_rfl) (by kernel_rfl) (by kernel_rfl) (by exact fun _ _ _ h => h) (Or.inl ⟨by rfl, ?_⟩) (by assumption) ?_
    rotate_left
    · (intro w hSw; (try dsimp only at hSw); go_simp; try with_reducible rfl)
    try simp only [Act.put, List.setIfInBounds_toArray, List.set_cons_zero, List.set_cons_succ]
    refine wpAnyH_take (i := 12) (oi := _) (v := ?_) (by simp only [List.getElem?_toArray, List.getElem?_cons_succ, List.getElem?_cons_zero]; rfl) (by kernel_rfl) (by kernel_rfl) (by kernel_rfl) (by exact fun _ _ _ h => h) (Or.inl ⟨by rfl, ?_⟩) (by assumption) ?_
    rotate_left
    · (intro w hSw; (try dsimp only at hSw); go_simp; try with_reducible rfl)
    try simp only [Act.put, List.setIfInBounds_toArray, List.set_cons_zero, List.set_cons_succ]
    refine wpAnyH_take (i := 13) (oi := _) (v := ?_) (by simp only [List.getElem?_toArray, List.getElem?_cons_succ, List.getElem?_cons_zero]; rfl) (by kernel_rfl) (by kernel_rfl) (by kernel_rfl) (by exact fun _ _ _ h => h) (Or.inl ⟨by rfl, ?_⟩) (by assumption) ?_
    rotate_left
    · (intro w hSw; (try dsimp only at hSw); go_simp; try with_reducible rfl)
    try simp only [Act.put, List.setIfInBounds_toArray, List.set_cons_zero, List.set_cons_succ]
    refine wpAnyH_take (i := 14) (oi := _) (v := ?_) (by simp only [List.getElem?_toArray, List.getElem?_cons_succ, List.getElem?_cons_zero]; rfl) (by kernel_rfl) (by kernel_rfl) (by kernel_rfl) (by exact fun _ _ _ h => h) (Or.inl ⟨by rfl, ?_⟩) (by assumption) ?_
    rotate_left
    · (intro w hSw; (try dsimp only at hSw); go_simp; try with_reducible rfl)
    try simp only [Act.put, List.setIfInBounds_toArray, List.set_cons_zero, List.set_cons_succ]
    refine wpAnyH_take (i := 15) (oi := _) (v := ?_) (by simp only [List.getElem?_toArray, List.getElem?_cons_succ, List.getElem?_cons_zero]; rfl) (by kernel_rfl) (by kernel_rfl) (by kernel_rfl) (by exact fun _ _ _ h => h) (Or.inl ⟨by rfl, ?_⟩) (by assumption) ?_
    rotate_left
    · (intro w hSw; (try dsimp only at hSw); go_simp; try with_reducible rfl)
    try simp only [Act.put, List.setIfInBounds_toArray, List.set_cons_zero, List.set_cons_succ]
    refine wpAnyH_take (i := 16) (oi := _) (v := ?_) (by simp only [List.getElem?_toArray, List.getElem?_cons_succ, List.getElem?_cons_zero]; rfl) (by kernel_rfl) (by kernel_rfl) (by kernel_rfl) (by exact fun _ _ _ h => h) (Or.inl ⟨by rfl, ?_⟩) (by assumption) ?_
    rotate_left
    · (intro w hSw; (try dsimp only at hSw); go_simp; try with_reducible rfl)
    try simp only [Act.put, List.setIfInBounds_toArray, List.set_cons_zero, List.set_cons_succ]
    refine wpAnyH_take (i := 17) (oi := _) (v := ?_) (by simp only [List.getElem?_toArray, List.getElem?_cons_succ, List.getElem?_cons_zero]; rfl) (by kernel_rfl) (by kernel_rfl) (by kernel_rfl) (by exact fun _ _ _ h => h) (Or.inl ⟨by rfl, ?_⟩) (by assumption) ?_
    rotate_left
    · (intro w hSw; (try dsimp only at hSw); go_simp; try with_reducible rfl)
    try simp only [Act.put, List.setIfInBounds_toArray, List.set_cons_zero, List.set_cons_succ]
    refine wpAnyH_take (i := 18) (oi := _) (v := ?_) (by simp only [List.getElem?_toArray, List.getElem?_cons_succ, List.getElem?_cons_zero]; rfl) (by kernel_rfl) (by kernel_rfl) (by kernel_rfl) (by exact fun _ _ _ h => h) (Or.inl ⟨by rfl, ?_⟩) (by assumption) ?_
    rotate_left
    · (intro w hSw; (try dsimp only at hSw); go_simp; try with_reducible rfl)
    try simp only [Act.put, List.setIfInBounds_toArray, List.set_cons_zero, List.set_cons_succ]
    refine wpAnyH_take (i := 19) (oi := _) (v := ?_) (by simp only [List.getElem?_toArray, List.getElem?_cons_succ, List.getElem?_cons_zero]; rfl) (by kernel_rfl) (by kernel_rfl) (by kernel_rfl) (by exact fun _ _ _ h => h) (Or.inl ⟨by rfl, ?_⟩) (by assumption) ?_
    rotate_left
    · (intro w hSw; (try dsimp only at hSw); go_simp; try with_reducible rfl)
    try simp only [Act.put, List.setIfInBounds_toArray, List.set_cons_zero, List.set_cons_succ]
    refine wpAnyH_done (by kernel_rfl) ?_ _
    have e3 := E3.out
    obtain ⟨p0, p1, p2, p3⟩ := cells4 S1.out
    go_wp2_with fail
    refine bodyPost_ret (v := .tuple #[.slice (some ⟨w3.heap.size, 0, none⟩) 1 1, .bool true]) (by simp [results, Tryz.results65, go_sem]) rfl ⟨_, _, rfl, bl_alloc B3.out _, .inl ⟨[x], some ⟨w3.heap.size, 0, none⟩, 1, rfl, rfl, rfl, ?_⟩⟩
    exact owns_mk (rest := []) (rowAt.made _ _ _) B3.out.size rfl rfl (Nat.le_refl _) (by decide)
end Go.Proofs.YtajkkinolpkfmaaGreatDoor

/-
  Package data: what any form says of a good cell ('fit').
  Conditions: as each states.
-/
namespace Go.Proofs.YtajkkinolpkfmaaGreatDoor
set_option linter.unusedVariables false
set_option linter.unusedSimpArgs false
open Go.ChangeShapes Go.WideShapes Go.ChangeAt Go.RowKit
set_option maxRecDepth 100000

def fitD (cons : List Int) (c : PCe) : Option (List Int) :=
  if c.1 = 0 then (if 0 ≤ c.2.2.1 ∧ c.2.2.1 < (cons.length : Int) ∧ cons[c.2.2.1.toNat]? = some (-1) then some [] else none)
  else if c.2.1 < (cons.length : Int) ∧ c = blkCe c.2.1 1 ∧ cons[c.2.1.toNat]? ≠ some (-1) then (cons[c.2.1.toNat]?).map fun x => [x] else none
theorem fitD_any {S : Nat → Prop} {w : World} {va : Value} {cons : List Int} (hr : rdAt S w va cons.length (intsV cons)) (c : PCe) (hg : goodC c = true) :
    Calls Tryz.prog 65 #[va, ceV c] w (FitT (fitD cons c) w) := by
  obtain ⟨ck, ct, n, cs⟩ := c
  by_cases hk : ck = 0
  · subst hk
    by_cases hn : 0 ≤ n ∧ n < (cons.length : Int)
    · obtain ⟨j, rfl⟩ := Int.eq_ofNat_of_zero_le hn.1
      have hj : j < cons.length := by omega
      have h := fitD_in hr ct j cs (List.getElem?_eq_getElem hj)
      have e : fitD cons (0, ct, (j : Int), cs) = if cons[j] = -1 then some [] else none := by
        unfold fitD
        simp only [if_true, Int.toNat_natCast, List.getElem?_eq_getElem hj, Option.some.injEq]
        by_cases h1 : cons[j] = -1
        · rw [if_pos ⟨hn.1, hn.2, h1⟩, if_pos h1]
        · rw [if_neg (fun h => h1 h.2.2), if_neg h1]
      rw [e]
      exact h
    · have e : fitD cons (0, ct, n, cs) = none := by
        unfold fitD
        simp only [if_true]
        rw [if_neg (fun h => hn ⟨h.1, h.2.1⟩)]
      rw [e]
      exact fitD_out hr ct n cs hn
  · by_cases hl : ct < (cons.length : Int)
    · by_cases hc : (ck, ct, n, cs) = blkCe ct 1
      · have h0 : 0 ≤ ct := by
          rw [hc] at hg
          unfold goodC blkCe at hg
          simp at hg
          exact hg.1
        obtain ⟨j, rfl⟩ := Int.eq_ofNat_of_zero_le h0
        have hj : j < cons.length := by omega
        have h := fitD_con hr (List.getElem?_eq_getElem hj)
        have e : fitD cons (ck, (j : Int), n, cs) = if cons[j] = -1 then none else some [cons[j]] := by
          unfold fitD
          simp only [if_neg hk, Int.toNat_natCast, List.getElem?_eq_getElem hj, Option.some.injEq, Option.map_some]
          by_cases h1 : cons[j] = -1
          · rw [if_neg (fun h => h.2.2 (by rw [h1])), if_pos h1]
          · rw [if_pos ⟨hl, hc, fun h => h1 (by simpa using h)⟩, if_neg h1]
        rw [e, hc]
        exact h
      · have e : fitD cons (ck, ct, n, cs) = none := by
          unfold fitD
          simp only [if_neg hk]
          rw [if_neg (fun h => hc h.2.1)]
        rw [e]
        exact fitD_else hr ck ct n cs hk hl hc
    · have e : fitD cons (ck, ct, n, cs) = none := by
        unfold fitD
        simp only [if_neg hk]
        rw [if_neg (fun h => hl h.1)]
      rw [e]
      exact fitD_far hr ck ct n cs hk hl
theorem FitR.base {R : Option (List Int)} {B B' : Nat} {v : Value} {b : Bool} {w : World} (h : FitR R B v b w) (hB : B' ≤ B) : FitR R B' v b w := by
  rcases h with ⟨l, a, cap, h1, h2, h3, h4⟩ | h
  · exact .inl ⟨l, a, cap, h1, h2, h3, owns_base h4 (fun g hg => Nat.le_trans hB (h4.lt g hg).1)⟩
  · exact .inr h
set_option maxHeartbeats 16000000 in
theorem fit_7 {S : Nat → Prop} {w : World} {v : Value} {f : List PFm} (h : fmsAt S w v f) {k : Nat} {a b : Int} {cons : List Int} (hk : f[k]? = some (7, a, b, cons)) (c : PCe) (hg : goodC c = true) :
    Calls Tryz.prog 32 #[v, .int .i64 (k : Int), ceV c] w (FitT (fitP f k c) w) := by
  have E := Lib.hid (show fitP f k c = fitD cons c by unfold fitP fitD; rw [hk]; rfl)
  obtain ⟨fb, fo, cap, va, rfl, hfb, e0, e1, e2, e3, hr⟩ := fm_cells h hk
  have HD := Lib.hid (fun (W : World) (hb : Below w.heap.size w W) => show Calls Tryz.prog 65 #[va, ceV c] W (FitT (fitD cons c) W) from fitD_any (hr.below hb) c hg)
  obtain ⟨ca, cc, rfl⟩ := hr.slice
  have hlt := (List.getElem?_eq_some_iff.1 hk).1
  have hkI : (k : Int) < (f.length : Int) := by omega
  simp only at e0 e1 e2 e3
  rw [E.out]
  obtain ⟨R, hR⟩ : ∃ R, fitD cons c = R := ⟨_, rfl⟩
  rw [hR] at HD ⊢
  obtain ⟨ck, ct, cn, cs⟩ := c
  clear h hk hr hg hR E
  have BB := Lib.hid (fun o o2 => bl_alloc (bl_alloc (Below.refl w.heap.size w) o) o2)
  go_enter Tryz.func32, Tryz.ntmps32
  go_wp2_with fail
  refine (HD.out _ (BB.out _ _)).mono ?_
  rintro e w5 ⟨rv, bb, rfl, b5, hfr⟩
  have B5 := Lib.hid (bl_call (BB.out _ _) b5)
  have FR := Lib.hid (hfr.base (BB.out _ _).size)
  clear b5 hfr
  go_wp2_with fail
  refine bodyPost_ret (v := .tuple #[rv, .bool bb]) (by simp [results, Tryz.results32, go_sem]) rfl ⟨_, _, rfl, B5.out, FR.out⟩
theorem fit_any {S : Nat → Prop} {w : World} {v : Value} {f : List PFm} (h : fmsAt S w v f) {k : Nat} (hk : k < f.length) (c : PCe) (hg : goodC c = true) :
    Calls Tryz.prog 32 #[v, .int .i64 (k : Int), ceV c] w (FitT (fitP f k c) w) := by
  have hk2 := List.getElem?_eq_getElem hk
  obtain ⟨⟨fk, a, b, cons⟩, hm⟩ : ∃ x, x = f[k] := ⟨_, rfl⟩
  rw [← hm] at hk2
  clear hm
  by_cases h1 : fk = 1; · subst h1; exact fit_1 h hk2 c
  by_cases h2 : fk = 2; · subst h2; exact fit_2 h hk2 c
  by_cases h3 : fk = 3; · subst h3; exact fit_3 h hk2 c
  by_cases h4 : fk = 4; · subst h4; exact fit_4 h hk2 c
  by_cases h5 : fk = 5; · subst h5; exact fit_5 h hk2 c
  by_cases h6 : fk = 6
  · subst h6
    by_cases hc : c = numCe 0
    · exact fit_6_nil h hk2 c hc
    · exact fit_6_two h hk2 c hc
  by_cases h7 : fk = 7; · subst h7; exact fit_7 h hk2 c hg
  exact fit_no h hk2 h1 h2 h3 h4 h5 h6 h7 c
end Go.Proofs.YtajkkinolpkfmaaGreatDoor

/-
  Package data: whether a message fits a form ('Fits'), and the document's own.
  Conditions: the tables of op read as the program's text lays them (OpTab).
-/
namespace Go.Proofs.YtajkkinolpkfmaaGreatDoor
set_option linter.unusedVariables false
set_option linter.unusedSimpArgs false
open Go.ChangeShapes Go.WideShapes Go.ChangeAt Go.RowKit
set_option maxRecDepth 100000

theorem fits_any {S S2 : Nat → Prop} {w : World} (T : OpTab w) {va vm : Value} {f : List PFm} (h : fmsAt S w va f) (hf : ∀ m ∈ f, fmF m) (hl : f.length ≤ maxLen) (k : Int) {m : List PCe} (hm : rdAt S2 w vm m.length (ceL m)) :
    Calls Tryz.prog 9 #[va, .int .i64 k, vm] w fun e w' => e = .returned (.bool (fitsB f k m)) ∧ Below w.heap.size w w' := by
  cases hc : (rfmsG f && (decide (0 ≤ k ∧ k < (f.length : Int)) && goodMs m)) with
  | false =>
    have e : fitsB f k m = false := by
      unfold fitsB
      cases h1 : rfmsG f <;> cases h2 : decide (0 ≤ k ∧ k < (f.length : Int)) <;> cases h3 : goodMs m <;> simp_all
    rw [e]
    exact fits_no T h hf hl k hm hc
  | true =>
    simp only [Bool.and_eq_true, decide_eq_true_eq] at hc
    obtain ⟨h1, ⟨h2, h3⟩, h4⟩ := hc
    have e : fitsB f k m = fitL f [k] m := by
      unfold fitsB
      rw [h1, h4, decide_eq_true (⟨h2, h3⟩ : 0 ≤ k ∧ k < (f.length : Int))]
      simp
    rw [e]
    exact fits_go T h hf hl k hm h1 h2 h3 h4 (fun W hb j hj c hg => fit_any (fms_below h hb) hj c hg)
end Go.Proofs.YtajkkinolpkfmaaGreatDoor

/-
  Plain facts of the law DataFits: forms against messages that stand one behind the other, and against more forms.
  Conditions: as each states.
-/
namespace Go.Proofs.YtajkkinolpkfmaaGreatDoor
set_option linter.unusedVariables false
set_option linter.unusedSimpArgs false
open Go.ChangeShapes Go.WideShapes Go.ChangeAt Go.RowKit
set_option maxRecDepth 100000

theorem fitL_nil (f : List PFm) (ks : List Int) : fitL f ks [] = true := by cases ks <;> rfl
theorem fitL_app (f : List PFm) : ∀ (a : List PCe) (ks ks' : List Int) (b : List PCe), whB (ks.length : Int) a = true → fitL f (ks ++ ks') (a ++ b) = (fitL f ks a && fitL f ks' b)
  | [], ks, ks', b, h => by
    have h0 : ks = [] := by
      unfold whB at h
      have := of_decide_eq_true h
      exact List.length_eq_zero_iff.1 (by omega)
    subst h0
    rw [fitL_nil]
    simp
  | c :: a, [], ks', b, h => by
    unfold whB at h
    simp at h
  | c :: a, k :: ks, ks', b, h => by
    unfold whB at h
    simp only [Bool.and_eq_true] at h
    obtain ⟨_, hg, hw⟩ := h
    show (match fitP f k.toNat c with | none => false | some l => fitL f (l.reverse ++ (ks ++ ks')) (a ++ b)) = ((match fitP f k.toNat c with | none => false | some l => fitL f (l.reverse ++ ks) a) && fitL f ks' b)
    cases hp : fitP f k.toNat c with
    | none => rfl
    | some l =>
      have hl := fitP_len hp hg
      simp only
      rw [← List.append_assoc]
      exact fitL_app f a (l.reverse ++ ks) ks' b (by
        have e : ((l.reverse ++ ks).length : Int) = ((k :: ks).length : Int) + (hasC c - 1) := by simp; omega
        rw [e]
        exact hw)
theorem fitP_more (f g : List PFm) {k : Nat} (hk : k < f.length) (c : PCe) : fitP (f ++ g) k c = fitP f k c := by
  unfold fitP
  rw [List.getElem?_append_left hk]
theorem fitL_more (f g : List PFm) (hf : rfmsG f = true) : ∀ (m : List PCe) (ks : List Int), (∀ k ∈ ks, 0 ≤ k ∧ k < (f.length : Int)) → fitL (f ++ g) ks m = fitL f ks m
  | [], ks, _ => by rw [fitL_nil, fitL_nil]
  | c :: m, [], _ => rfl
  | c :: m, k :: ks, h => by
    have h0 := h k (by simp)
    have hk : k.toNat < f.length := by omega
    show (match fitP (f ++ g) k.toNat c with | none => false | some l => fitL (f ++ g) (l.reverse ++ ks) m) = (match fitP f k.toNat c with | none => false | some l => fitL f (l.reverse ++ ks) m)
    rw [fitP_more f g hk]
    cases hp : fitP f k.toNat c with
    | none => rfl
    | some l =>
      simp only
      refine fitL_more f g hf m _ fun x hx => ?_
      rcases List.mem_append.1 hx with hx | hx
      · exact fitP_range hf hk hp x (List.mem_reverse.1 hx)
      · exact h x (by simp [hx])
/-- The forms of the law: f, a pair, a list, constructors. -/
def mo (f : List PFm) (k : Int) : List PFm := f ++ [(5, k, k, []), (6, k, 0, []), (7, 0, 0, [-1, k])]
section
variable {f : List PFm} {k : Int} {m : List PCe}
theorem mo_same (hf : rfmsG f = true) (h0 : 0 ≤ k) (h1 : k < (f.length : Int)) : fitL (mo f k) [k] m = fitL f [k] m :=
  fitL_more f _ hf m [k] fun x hx => by simp at hx; subst hx; exact ⟨h0, h1⟩
theorem mo_pair (hf : rfmsG f = true) (h0 : 0 ≤ k) (h1 : k < (f.length : Int)) (hm : goodMs m = true) : fitL (mo f k) [(f.length : Int)] (blkCe 0 2 :: (m ++ m)) = fitL f [k] m := by
  have hp : fitP (mo f k) f.length (blkCe 0 2) = some [k, k] := by
    unfold fitP mo
    rw [List.getElem?_append_right (Nat.le_refl _)]
    simp
  show (match fitP (mo f k) ((f.length : Int)).toNat (blkCe 0 2) with | none => false | some l => fitL (mo f k) (l.reverse ++ []) (m ++ m)) = _
  rw [Int.toNat_natCast, hp]
  have hw := (goodMs_iff.1 hm).2
  have h := fitL_app (mo f k) m [k] [k] m hw
  have h2 := fitL_app (mo f k) m [k] [] [] hw
  show fitL (mo f k) ([k] ++ [k]) (m ++ m) = _
  rw [h, mo_same hf h0 h1, Bool.and_self]
theorem mo_list (hf : rfmsG f = true) (h0 : 0 ≤ k) (h1 : k < (f.length : Int)) (hm : goodMs m = true) : fitL (mo f k) [((f.length + 1 : Nat) : Int)] (blkCe 1 2 :: (m ++ [numCe 0])) = fitL f [k] m := by
  have hg : (mo f k)[f.length + 1]? = some (6, k, 0, []) := by
    unfold mo
    rw [List.getElem?_append_right (by omega)]
    simp
  have hp : fitP (mo f k) (f.length + 1) (blkCe 1 2) = some [((f.length + 1 : Nat) : Int), k] := by
    unfold fitP
    rw [hg]
    simp [blkCe, numCe]
  have hq : fitP (mo f k) (f.length + 1) (numCe 0) = some [] := by
    unfold fitP
    rw [hg]
    simp
  show (match fitP (mo f k) (((f.length + 1 : Nat) : Int)).toNat (blkCe 1 2) with | none => false | some l => fitL (mo f k) (l.reverse ++ []) (m ++ [numCe 0])) = _
  rw [Int.toNat_natCast, hp]
  have h := fitL_app (mo f k) m [k] [((f.length + 1 : Nat) : Int)] [numCe 0] (goodMs_iff.1 hm).2
  show fitL (mo f k) ([k] ++ [((f.length + 1 : Nat) : Int)]) (m ++ [numCe 0]) = _
  rw [h, mo_same hf h0 h1]
  have e : fitL (mo f k) [((f.length + 1 : Nat) : Int)] [numCe 0] = true := by
    show (match fitP (mo f k) (((f.length + 1 : Nat) : Int)).toNat (numCe 0) with | none => false | some l => fitL (mo f k) (l.reverse ++ []) []) = true
    rw [Int.toNat_natCast, hq]
    rfl
  rw [e, Bool.and_true]
theorem mo_con (hf : rfmsG f = true) (h0 : 0 ≤ k) (h1 : k < (f.length : Int)) : fitL (mo f k) [((f.length + 2 : Nat) : Int)] (blkCe 1 1 :: m) = fitL f [k] m := by
  have hg : (mo f k)[f.length + 2]? = some (7, 0, 0, [-1, k]) := by
    unfold mo
    rw [List.getElem?_append_right (by omega)]
    simp
  have hp : fitP (mo f k) (f.length + 2) (blkCe 1 1) = some [k] := by
    unfold fitP
    rw [hg]
    have hk : k ≠ -1 := by omega
    simp [blkCe, hk]
  show (match fitP (mo f k) (((f.length + 2 : Nat) : Int)).toNat (blkCe 1 1) with | none => false | some l => fitL (mo f k) (l.reverse ++ []) m) = _
  rw [Int.toNat_natCast, hp]
  exact mo_same hf h0 h1
end
end Go.Proofs.YtajkkinolpkfmaaGreatDoor

/-
  Plain facts of the law DataFits: the longer forms may be, the messages around m may be; what each of the eleven calls answers.
  Conditions: as each states.
-/
namespace Go.Proofs.YtajkkinolpkfmaaGreatDoor
set_option linter.unusedVariables false
set_option linter.unusedSimpArgs false
open Go.ChangeShapes Go.WideShapes Go.ChangeAt Go.RowKit
set_option maxRecDepth 100000

theorem belowB_more {n : Int} {a b : Int} (hab : a ≤ b) (h : belowB n a = true) : belowB n b = true := by
  unfold belowB at *
  have := of_decide_eq_true h
  exact decide_eq_true (by omega)
theorem conG_more {a b : Nat} (hab : a ≤ b) {c : Int} (h : conG a c = true) : conG b c = true := by
  unfold conG at *
  rw [Bool.or_eq_true] at *
  exact h.imp_right (belowB_more (by omega))
theorem consG_more {a b : Nat} (hab : a ≤ b) {l : List Int} (h : consG a l = true) : consG b l = true := by
  unfold consG at *
  rw [Bool.and_eq_true] at *
  exact ⟨h.1, allI_true fun j x hj hx => conG_more hab (by have := (allI_iff _ l 0).1 h.2 j x hx; simpa using this)⟩
theorem fmG_more {a b : Nat} (hab : a ≤ b) {m : PFm} (h : fmG a m = true) : fmG b m = true := by
  unfold fmG at *
  by_cases h1 : m.1 = 1 ∨ m.1 = 2 ∨ m.1 = 3 ∨ m.1 = 4
  · rw [if_pos h1] at *
    exact h
  · rw [if_neg h1] at *
    by_cases h5 : m.1 = 5
    · rw [if_pos h5] at *
      simp only [Bool.and_eq_true] at *
      exact ⟨belowB_more (by omega) h.1, belowB_more (by omega) h.2.1, h.2.2⟩
    · rw [if_neg h5] at *
      by_cases h6 : m.1 = 6
      · rw [if_pos h6] at *
        simp only [Bool.and_eq_true] at *
        exact ⟨belowB_more (by omega) h.1, h.2⟩
      · rw [if_neg h6] at *
        by_cases h7 : m.1 = 7
        · rw [if_pos h7] at *
          simp only [Bool.and_eq_true] at *
          exact ⟨h.1, h.2.1, consG_more hab h.2.2⟩
        · rw [if_neg h7] at h
          cases h
theorem belowB_of {n m : Int} (h0 : 0 ≤ n) (h1 : n < m) : belowB n m = true := decide_eq_true ⟨h0, h1⟩
theorem mo_length (f : List PFm) (k : Int) : (mo f k).length = f.length + 3 := by unfold mo; simp
theorem mo_good {f : List PFm} {k : Int} (hf : rfmsG f = true) (h36 : f.length ≤ 36) (h0 : 0 ≤ k) (h1 : k < (f.length : Int)) : rfmsG (mo f k) = true := by
  have hl := mo_length f k
  rw [rf_true]
  · exact decide_eq_true (by omega)
  · intro j x hj hx
    rw [hl]
    unfold mo at hx
    by_cases hjf : j < f.length
    · rw [List.getElem?_append_left hjf] at hx
      unfold rfmsG at hf
      rw [Bool.and_eq_true] at hf
      have := (allI_iff _ f 0).1 hf.2 j x hx
      exact fmG_more (by omega) this
    · rw [List.getElem?_append_right (by omega)] at hx
      have hB := belowB_of h0 (show k < ((f.length + 3 : Nat) : Int) by omega)
      have hB' : belowB k ((f.length : Int) + 3) = true := hB
      rw [hl] at hj
      obtain ⟨i, hi⟩ : ∃ i, j - f.length = i := ⟨_, rfl⟩
      rw [hi] at hx
      match i, (show i < 3 by omega) with
      | 0, _ => cases hx; simp [fmG, hB']
      | 1, _ => cases hx; simp [fmG, hB', show belowB 0 1 = true by decide]
      | 2, _ =>
        cases hx
        have hc : consG (f.length + 3) [-1, k] = true := by
          unfold consG
          simp [allI, conG, hB']
        simp [fmG, hc]
theorem good_zero : goodMs [numCe 0] = true := by decide +kernel
theorem good_unit : goodMs [numCe 1] = true := by decide +kernel
theorem good_one' {a : List PCe} {t : Int} (ha : goodMs a = true) (ht : 0 ≤ t ∧ t ≤ 255) (hl : a.length < 100) : goodMs (blkCe t 1 :: a) = true := by
  rw [goodMs_iff] at *
  refine ⟨by simp; omega, whB_mk (by decide) ?_ ?_⟩
  · unfold goodC blkCe noText
    simp [ht]
    rfl
  · have h2 : (1 : Int) + (hasC (blkCe t 1) - 1) = 1 := by simp [hasC, blkCe]
    rw [h2]
    exact ha.2
theorem fitsB_go {f : List PFm} {k : Int} {m : List PCe} (hf : rfmsG f = true) (h0 : 0 ≤ k) (h1 : k < (f.length : Int)) (hm : goodMs m = true) : fitsB f k m = fitL f [k] m := by
  unfold fitsB
  rw [hf, hm, decide_eq_true (⟨h0, h1⟩ : 0 ≤ k ∧ k < (f.length : Int))]
  simp
/-- A good message of one cell that has nothing is that cell. -/
theorem good_sole {c : PCe} {m : List PCe} (h : goodMs (c :: m) = true) (hc : hasC c = 0) : m = [] := by
  have := (whB_cons (goodMs_iff.1 h).2).2.2
  rw [hc] at this
  cases m with
  | nil => rfl
  | cons d m => rw [show (1 : Int) + (0 - 1) = 0 by decide, whB_zero (by simp)] at this; cases this
section
variable {f : List PFm} {k : Int} {m : List PCe} {F : Bool}
/-- What the eleven calls answer. -/
structure FitsN (f : List PFm) (k : Int) (m : List PCe) (F : Bool) : Prop where
  a1 : fitsB f k m = F
  a2 : fitsB (mo f k) k m = F
  a3 : fitsB (mo f k) (f.length : Int) (blkCe 0 2 :: (m ++ m)) = F
  a4 : fitsB (mo f k) ((f.length + 1 : Nat) : Int) (blkCe 1 2 :: (m ++ [numCe 0])) = F
  a5 : fitsB (mo f k) ((f.length + 2 : Nat) : Int) (blkCe 1 1 :: m) = F
  a6 : fitsB (mo f k) ((f.length + 1 : Nat) : Int) [numCe 0] = true
  a7 : fitsB (mo f k) ((f.length + 2 : Nat) : Int) [numCe 0] = true
  a8 : fitsB (mo f k) ((f.length + 2 : Nat) : Int) [numCe 1] = false
  a9 : fitsB (mo f k) (f.length : Int) [numCe 0] = false
theorem mo_at (f : List PFm) (k : Int) (i : Nat) : (mo f k)[f.length + i]? = [((5, k, k, []) : PFm), (6, k, 0, []), (7, 0, 0, [-1, k])][i]? := by
  unfold mo
  rw [List.getElem?_append_right (by omega)]
  congr 1
  omega
theorem fitsN (hf : rfmsG f = true) (h36 : f.length ≤ 36) (h0 : 0 ≤ k) (h1 : k < (f.length : Int)) (hm : goodMs m = true) (h40 : m.length ≤ 40) (hF : fitL f [k] m = F) : FitsN f k m F := by
  have hg := mo_good hf h36 h0 h1
  have hl := mo_length f k
  have g5 : fitP (mo f k) f.length (numCe 0) = none := by
    have h := mo_at f k 0
    rw [Nat.add_zero] at h
    unfold fitP
    rw [h]
    simp [numCe, blkCe]
  have g6 : fitP (mo f k) (f.length + 1) (numCe 0) = some [] := by
    unfold fitP
    rw [mo_at f k 1]
    simp
  have g7 : fitP (mo f k) (f.length + 2) (numCe 0) = some [] := by
    unfold fitP
    rw [mo_at f k 2]
    simp [numCe]
  have g8 : fitP (mo f k) (f.length + 2) (numCe 1) = none := by
    unfold fitP
    rw [mo_at f k 2]
    simp [numCe]
    omega
  refine ⟨?_, ?_, ?_, ?_, ?_, ?_, ?_, ?_, ?_⟩
  · rw [fitsB_go hf h0 h1 hm, hF]
  · rw [fitsB_go hg h0 (by omega) hm, mo_same hf h0 h1, hF]
  · rw [fitsB_go hg (by omega) (by omega) (good_two hm hm (by decide) (by omega)), mo_pair hf h0 h1 hm, hF]
  · rw [fitsB_go hg (by omega) (by omega) (good_two hm good_zero (by decide) (by simp; omega)), mo_list hf h0 h1 hm, hF]
  · rw [fitsB_go hg (by omega) (by omega) (good_one' hm (by decide) (by omega)), mo_con hf h0 h1, hF]
  · rw [fitsB_go hg (by omega) (by omega) good_zero]
    show (match fitP (mo f k) (((f.length + 1 : Nat) : Int)).toNat (numCe 0) with | none => false | some l => fitL (mo f k) (l.reverse ++ []) []) = true
    rw [Int.toNat_natCast, g6]
    rfl
  · rw [fitsB_go hg (by omega) (by omega) good_zero]
    show (match fitP (mo f k) (((f.length + 2 : Nat) : Int)).toNat (numCe 0) with | none => false | some l => fitL (mo f k) (l.reverse ++ []) []) = true
    rw [Int.toNat_natCast, g7]
    rfl
  · rw [fitsB_go hg (by omega) (by omega) good_unit]
    show (match fitP (mo f k) (((f.length + 2 : Nat) : Int)).toNat (numCe 1) with | none => false | some l => fitL (mo f k) (l.reverse ++ []) []) = false
    rw [Int.toNat_natCast, g8]
  · rw [fitsB_go hg (by omega) (by omega) good_zero]
    show (match fitP (mo f k) ((f.length : Int)).toNat (numCe 0) with | none => false | some l => fitL (mo f k) (l.reverse ++ []) []) = false
    rw [Int.toNat_natCast, g5]
end
theorem fits_kind {t : Int} {c : PCe} {m : List PCe} (ht : t = 1 ∨ t = 4) (hm : goodMs (c :: m) = true) : fitsB [(t, 0, 0, [])] 0 (c :: m) = (c.1 == if t = 1 then 0 else 2) := by
  have hg : rfmsG [(t, 0, 0, [])] = true := by rcases ht with rfl | rfl <;> decide +kernel
  rw [fitsB_go hg (by decide) (by simp) hm]
  have hs : c.1 = (if t = 1 then 0 else 2) → m = [] := fun h => good_sole hm (by unfold hasC; rw [if_neg (by rcases ht with rfl | rfl <;> simp at h <;> omega)])
  show (match fitP [(t, 0, 0, [])] 0 c with | none => false | some l => fitL [(t, 0, 0, [])] (l.reverse ++ []) m) = _
  have e : fitP [(t, 0, 0, [])] 0 c = if c.1 = (if t = 1 then 0 else 2) then some [] else none := by
    unfold fitP
    rcases ht with rfl | rfl <;> rfl
  rw [e]
  by_cases h : c.1 = (if t = 1 then 0 else 2)
  · rw [if_pos h, hs h, h]
    simp [fitL_nil]
  · rw [if_neg h]
    simp [h]
end Go.Proofs.YtajkkinolpkfmaaGreatDoor
