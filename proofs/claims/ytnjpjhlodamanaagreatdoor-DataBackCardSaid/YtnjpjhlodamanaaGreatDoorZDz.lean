/-
  Package data: forms as plain data; which programs may have them ('goodForms').
  Conditions: as each states.
-/
import Derived.Test.YtnjpjhlodamanaaGreatDoorZDr
import Derived.Test.YtnjpjhlodamanaaGreatDoorZCoBs
import Derived.Test.YtnjpjhlodamanaaGreatDoorZDv
import Derived.Deep.RegionHeld3
namespace Go.Proofs.YtnjpjhlodamanaaGreatDoor
set_option linter.unusedVariables false
set_option linter.unusedSimpArgs false
open Go.ChangeShapes Go.WideShapes Go.ChangeAt Go.RowKit
set_option maxRecDepth 100000

/-- The forms that what a cell has must fit, the last one first; none: no such whole fits form k. -/
def fitP (f : List PFm) (k : Nat) (c : PCe) : Option (List Int) := match f[k]? with
  | none => none
  | some (fk, a, b, cons) =>
    if fk = 1 then (if c.1 = 0 then some [] else none)
    else if fk = 2 then (if c = numCe 0 ∨ c = numCe 1 then some [] else none)
    else if fk = 3 then (if c = numCe 0 then some [] else none)
    else if fk = 4 then (if c.1 = 2 then some [] else none)
    else if fk = 5 then (if c = blkCe 0 2 then some [b, a] else none)
    else if fk = 6 then (if c = numCe 0 then some [] else if c = blkCe 1 2 then some [(k : Int), a] else none)
    else if fk = 7 then (if c.1 = 0 then (if 0 ≤ c.2.2.1 ∧ c.2.2.1 < (cons.length : Int) ∧ cons[c.2.2.1.toNat]? = some (-1) then some [] else none)
      else if c.2.1 < (cons.length : Int) ∧ c = blkCe c.2.1 1 ∧ cons[c.2.1.toNat]? ≠ some (-1) then (cons[c.2.1.toNat]?).map fun x => [x] else none)
    else none
/-- Wholes against forms, the first one first. -/
def fitL (f : List PFm) : List Int → List PCe → Bool
  | _, [] => true
  | [], _ :: _ => false
  | k :: ks, c :: cs => match fitP f k.toNat c with
    | none => false
    | some l => fitL f (l.reverse ++ ks) cs
def fitsB (f : List PFm) (k : Int) (m : List PCe) : Bool := rfmsG f && (decide (0 ≤ k ∧ k < (f.length : Int)) && (goodMs m && fitL f [k] m))
theorem fitP_len {f : List PFm} {k : Nat} {c : PCe} {l : List Int} (h : fitP f k c = some l) (hg : goodC c = true) : (l.length : Int) = hasC c := by
  have hs : ∀ n : Int, hasC (numCe n) = 0 := fun n => rfl
  unfold fitP at h
  split at h
  · cases h
  · rename_i fk a b cons _
    have key : (∃ n, c = numCe n) ∨ c.1 = 0 ∨ c.1 = 2 → hasC c = 0 := by
      rintro (⟨n, rfl⟩ | h | h)
      · rfl
      · unfold hasC; rw [if_neg (by omega)]
      · unfold hasC; rw [if_neg (by omega)]
    repeat' split at h
    all_goals first
      | (cases h; rename_i hc; rcases hc with hc | hc <;> subst hc <;> rfl)
      | (cases h; rename_i hc; subst hc; rfl)
      | (cases h; rename_i hc; rw [key (.inr (.inl hc))]; rfl)
      | (cases h; rename_i hc; rw [key (.inr (.inr hc))]; rfl)
      | (cases h; done)
      | skip
    · cases h; rename_i hc _; rw [key (.inr (.inl hc))]; rfl
    · rename_i hc
      obtain ⟨_, h2, _⟩ := hc
      simp only [Option.map_eq_some_iff] at h
      obtain ⟨x, _, rfl⟩ := h
      rw [h2]
      rfl
/-- The least program with these forms. -/
def leastPr (f : List PFm) : PPr := ([(0, 0, [(9, 0, 0)])], [], f)
theorem leastPr_good (f : List PFm) : prG (leastPr f) = rfmsG f := by
  unfold prG leastPr rfmsG
  have e1 : fnsG [(0, 0, [(9, 0, 0)])] = true := by decide +kernel
  have e2 : strsG [] = true := rfl
  simp only [e1, e2, Bool.true_and, List.length_cons, List.length_nil]
  congr 1
  simp
set_option maxHeartbeats 4000000 in
theorem dgoodForms_any {S : Nat → Prop} {w : World} (T : OpTab w) {v : Value} {f : List PFm} (h : fmsAt S w v f) (hf : ∀ m ∈ f, fmF m) (hl : f.length ≤ maxLen) :
    Calls Tryz.prog 43 #[v] w fun e w' => e = .returned (.bool (rfmsG f)) ∧ Below w.heap.size w w' := by
  obtain ⟨a, c, rfl⟩ := h.slice
  have H := Lib.hid h
  have HF := Lib.hid hf
  have HL := Lib.hid hl
  clear h hf hl
  obtain ⟨W, hW⟩ : ∃ W, W = (w.alloc (.cells #[.int .i64 9, .int .i64 0, .int .i64 0] 134)).alloc (.cells #[.int .i64 0, .int .i64 0, .slice (some ⟨w.heap.size, 0, none⟩) 1 1] 137) := ⟨_, rfl⟩
  have r1 : rowAt W w.heap.size 134 [.int .i64 9, .int .i64 0, .int .i64 0] := by rw [hW]; exact (rowAt.made _ _ _).alloc _
  have r2 : rowAt W (w.heap.size + 1) 137 [.int .i64 0, .int .i64 0, .slice (some ⟨w.heap.size, 0, none⟩) 1 1] := by rw [hW]; exact rowAt.made_at _ _ (by simp)
  have BW := Lib.hid (show Below w.heap.size w W by rw [hW]; exact bl_alloc (bl_alloc (Below.refl _ _) _) _)
  have HP := Lib.hid (show prAt (fun _ => False) W (.slice (some ⟨w.heap.size + 1, 0, none⟩) 1 1) (.slice none 0 0) (.slice a f.length c) (leastPr f) from by
    refine ⟨⟨_, _, rfl, .inr ⟨w.heap.size + 1, 0, rfl, fun h => h, r2.lt, fun k x hx => ?_⟩⟩, ⟨_, _, rfl, .inl rfl⟩, ?_⟩
    · match k with
      | 0 =>
        have e : x = (0, 0, [(9, 0, 0)]) := by simpa [leastPr] using hx.symm
        subst e
        refine ⟨r2.cell 0, r2.cell 1, _, r2.cell 2, ⟨_, _, rfl, .inr ⟨w.heap.size, 0, rfl, fun h => h, r1.lt, fun j u hj => ?_⟩⟩⟩
        rw [Nat.zero_add, r1.cell]
        exact hj
      | k + 1 => simp [leastPr] at hx
    · exact (fms_below H.out BW.out).off (fun _ _ _ ⟨a, b, c, v, d, e⟩ => ⟨a, b, c, v, d, e.off (fun _ _ t => t.elim)⟩) (fun _ _ t => t.elim))
  have PF := Lib.hid (show prF (leastPr f) from ⟨fun m hm => by
      simp only [leastPr, List.mem_singleton] at hm
      subst hm
      refine ⟨by decide, by decide, fun p hp => ?_, by decide⟩
      simp only [List.mem_singleton] at hp
      subst hp
      exact ⟨by decide, by decide, by decide⟩, HF.out, fun s hs => by simp [leastPr] at hs, by simp [leastPr, maxLen], by simp [leastPr, maxLen], HL.out⟩)
  have CG := Lib.hid (codeGood_any _ _ _ (leastPr f) W (T.below BW.out) HP.out PF.out)
  rw [leastPr_good] at CG
  clear r1 r2
  go_enter Tryz.func43, Tryz.ntmps43
  go_wp2_with fail
  rw [← hW]
  refine CG.out.mono ?_
  rintro e w1 ⟨rfl, b1⟩
  have B1 := Lib.hid (bl_call BW.out b1)
  go_wp2_with fail
  go_ret
  exact ⟨rfl, B1.out⟩
end Go.Proofs.YtnjpjhlodamanaaGreatDoor

/-
  Package data: whether a message fits a form ('Fits'), given what one form says of one cell ('fit').
  Conditions: as each states.
-/
namespace Go.Proofs.YtnjpjhlodamanaaGreatDoor
set_option linter.unusedVariables false
set_option linter.unusedSimpArgs false
open Go.ChangeShapes Go.WideShapes Go.ChangeAt Go.RowKit
set_option maxRecDepth 100000

def intsV (l : List Int) : List Value := l.map (Value.int .i64)
theorem intsV_one (l : List Int) : ∀ u ∈ intsV l, u.oneCell' = true := by
  intro u hu
  simp only [intsV, List.mem_map] at hu
  obtain ⟨x, _, rfl⟩ := hu
  rfl
def FitR (R : Option (List Int)) (B : Nat) (v : Value) (b : Bool) (w' : World) : Prop :=
  (∃ l a cap, R = some l ∧ v = .slice a l.length cap ∧ b = true ∧ w'.ownsRow B 3 1 (.slice a l.length cap) l.length (intsV l)) ∨ (R = none ∧ b = false)
/-- What 'fit' tells. -/
def FitT (R : Option (List Int)) (w : World) (e : Ending) (w' : World) : Prop := ∃ v b, e = .returned (.tuple #[v, .bool b]) ∧ Below w.heap.size w w' ∧ FitR R w.heap.size v b w'
theorem fitP_range {f : List PFm} {k : Nat} {c : PCe} {l : List Int} (hf : rfmsG f = true) (hk : k < f.length) (h : fitP f k c = some l) : ∀ x ∈ l, 0 ≤ x ∧ x < (f.length : Int) := by
  have hf2 : fmsG f = true := by unfold rfmsG at hf; simp only [Bool.and_eq_true] at hf; exact hf.2
  have hm : fmG f.length f[k] = true := allI_at hf2 (List.getElem?_eq_getElem hk)
  unfold fitP at h
  rw [List.getElem?_eq_getElem hk] at h
  obtain ⟨⟨fk, a, b, cons⟩, hm'⟩ : ∃ x, x = f[k] := ⟨_, rfl⟩
  rw [← hm'] at h hm
  simp only at h
  unfold fmG at hm
  simp only at hm
  have bel : ∀ (x : Int) (n : Nat), belowB x n = true → 0 ≤ x ∧ x < (n : Int) := fun x n h => of_decide_eq_true h
  by_cases h5 : fk = 5
  · subst h5
    simp only [show ¬ (5 : Int) = 1 by decide, show ¬ (5 : Int) = 2 by decide, show ¬ (5 : Int) = 3 by decide, show ¬ (5 : Int) = 4 by decide, or_self, if_false, if_true, Bool.and_eq_true] at h hm
    split at h
    · cases h
      intro x hx
      simp only [List.mem_cons, List.not_mem_nil, or_false] at hx
      rcases hx with rfl | rfl
      · exact bel _ _ hm.2.1
      · exact bel _ _ hm.1
    · cases h
  · by_cases h6 : fk = 6
    · subst h6
      simp only [show ¬ (6 : Int) = 1 by decide, show ¬ (6 : Int) = 2 by decide, show ¬ (6 : Int) = 3 by decide, show ¬ (6 : Int) = 4 by decide, show ¬ (6 : Int) = 5 by decide, or_self, if_false, if_true, Bool.and_eq_true] at h hm
      split at h
      · cases h; intro x hx; cases hx
      · split at h
        · cases h
          intro x hx
          simp only [List.mem_cons, List.not_mem_nil, or_false] at hx
          rcases hx with rfl | rfl
          · omega
          · exact bel _ _ hm.1
        · cases h
    · by_cases h7 : fk = 7
      · subst h7
        simp only [show ¬ (7 : Int) = 1 by decide, show ¬ (7 : Int) = 2 by decide, show ¬ (7 : Int) = 3 by decide, show ¬ (7 : Int) = 4 by decide, show ¬ (7 : Int) = 5 by decide, show ¬ (7 : Int) = 6 by decide, or_self, if_false, if_true, Bool.and_eq_true] at h hm
        split at h
        · split at h
          · cases h; intro x hx; cases hx
          · cases h
        · split at h
          · rename_i hc
            obtain ⟨_, _, h3⟩ := hc
            simp only [Option.map_eq_some_iff] at h
            obtain ⟨y, hy, rfl⟩ := h
            intro x hx
            rw [List.mem_singleton] at hx
            subst hx
            have hcg := hm.2.2
            unfold consG at hcg
            simp only [Bool.and_eq_true] at hcg
            have := allI_at hcg.2 hy
            unfold conG at this
            rw [hy] at h3
            have hne : x ≠ -1 := fun e => h3 (by rw [e])
            rw [decide_eq_false hne, Bool.false_or] at this
            exact bel _ _ this
          · cases h
      · simp only [h5, h6, h7, if_false] at h
        repeat' split at h
        all_goals first | (cases h; intro x hx; cases hx; done) | (cases h; done)
structure FitM (w : World) (g : Nat) (ks : List Int) (wr : World) : Prop where
  b : Below w.heap.size w wr
  t : roomA wr g 95 1 ks.length (intsV ks.reverse)
  gl : w.heap.size ≤ g
theorem FitM.below {w : World} {g : Nat} {ks : List Int} {wr wr' : World} (h : FitM w g ks wr) (hb : Below wr.heap.size wr wr') : FitM w g ks wr' := ⟨bl_call h.b hb, h.t.below hb, h.gl⟩
theorem FitM.todo {w : World} {g : Nat} {ks us : List Int} {wr wr' : World} {n : Nat} (h : FitM w g ks wr) (ht : roomA wr' g 95 1 n (intsV us.reverse)) (hn : n = us.length) (hu : Upon (fun k => k = g) wr wr') : FitM w g us wr' := by
  subst hn
  exact ⟨h.b.trans (hu.belowB h.b.size fun k e => by have := h.gl; omega), ht, h.gl⟩
theorem FitM.pop {w : World} {g : Nat} {k : Int} {ks : List Int} {wr : World} (h : FitM w g (k :: ks) wr) : roomA wr g 95 1 ks.length (intsV ks.reverse) ∧ wr.cell? ⟨g, ks.length, none⟩ = some (.int .i64 k) := by
  have ht := h.t
  have e0 : intsV (k :: ks).reverse = intsV ks.reverse ++ [.int .i64 k] := by simp [intsV]
  rw [e0] at ht
  obtain ⟨h1, h2⟩ := ht.pop (n := ks.length) rfl
  have := h2 0 _ rfl
  exact ⟨h1, by simpa using this⟩
theorem under_intsD : Tryz.prog.underlying 55 = some (.slice 3) := by kernel_rfl
theorem info_intD : (Tryz.prog.info? 3).map (fun i => (i.zero, i.size, i.bytes)) = some (some (.int .i64 0), 1, 8) := by kernel_rfl
/-- Where nothing is gone through. -/
theorem fits_no {S S2 : Nat → Prop} {w : World} (T : OpTab w) {va vm : Value} {f : List PFm} (h : fmsAt S w va f) (hf : ∀ m ∈ f, fmF m) (hl : f.length ≤ maxLen) (k : Int) {m : List PCe} (hm : rdAt S2 w vm m.length (ceL m))
    (hno : (rfmsG f && (decide (0 ≤ k ∧ k < (f.length : Int)) && goodMs m)) = false) :
    Calls Tryz.prog 20 #[va, .int .i64 k, vm] w fun e w' => e = .returned (.bool false) ∧ Below w.heap.size w w' := by
  have GF := Lib.hid (dgoodForms_any T h hf hl)
  obtain ⟨a, c, rfl⟩ := h.slice
  have HM := Lib.hid hm
  obtain ⟨a2, c2, rfl⟩ := hm.slice
  have HN := Lib.hid hno
  clear hno hm hl hf h T
  cases hr : rfmsG f
  · rw [hr] at GF
    clear hr HN
    go_enter Tryz.func20, Tryz.ntmps20
    go_wp2_with fail
    refine GF.out.mono ?_
    rintro e w1 ⟨rfl, b1⟩
    have B1 := Lib.hid b1
    clear b1
    go_wp2_with fail
    go_ret
    exact ⟨rfl, B1.out⟩
  · rw [hr] at GF HN
    simp only [Bool.true_and] at HN
    clear hr
    by_cases h0 : k < 0
    · clear HN
      go_enter Tryz.func20, Tryz.ntmps20
      go_wp2_with fail
      refine GF.out.mono ?_
      rintro e w1 ⟨rfl, b1⟩
      have B1 := Lib.hid b1
      clear b1
      go_wp2_with fail
      go_ret
      exact ⟨rfl, B1.out⟩
    · by_cases h1 : (f.length : Int) ≤ k
      · clear HN
        go_enter Tryz.func20, Tryz.ntmps20
        go_wp2_with fail
        refine GF.out.mono ?_
        rintro e w1 ⟨rfl, b1⟩
        have B1 := Lib.hid b1
        clear b1
        go_wp2_with fail
        go_ret
        exact ⟨rfl, B1.out⟩
      · have hg : goodMs m = false := by
          have h2 := HN.out
          rw [decide_eq_true (by omega), Bool.true_and] at h2
          exact h2
        have HG := Lib.hid hg
        clear HN hg
        go_enter Tryz.func20, Tryz.ntmps20
        go_wp2_with fail
        refine GF.out.mono ?_
        rintro e w1 ⟨rfl, b1⟩
        have B1 := Lib.hid b1
        clear b1
        go_wp2_with fail
        refine (dgood_is HG.out (HM.out.below B1.out)).mono ?_
        rintro e w2 ⟨rfl, b2⟩
        have B2 := Lib.hid (bl_call B1.out b2)
        clear b2
        go_wp2_with fail
        go_ret
        exact ⟨rfl, B2.out⟩
end Go.Proofs.YtnjpjhlodamanaaGreatDoor

/-
  Package data: whether a message fits a form ('Fits'), the walk; 'fit' of ints and lists.
  Conditions: as each states.
-/
namespace Go.Proofs.YtnjpjhlodamanaaGreatDoor
set_option linter.unusedVariables false
set_option linter.unusedSimpArgs false
open Go.ChangeShapes Go.WideShapes Go.ChangeAt Go.RowKit
set_option maxRecDepth 100000

set_option maxHeartbeats 16000000 in
theorem fits_go {S S2 : Nat → Prop} {w : World} (T : OpTab w) {va vm : Value} {f : List PFm} (h : fmsAt S w va f) (hf : ∀ m ∈ f, fmF m) (hl : f.length ≤ maxLen) (k : Int) {m : List PCe} (hm : rdAt S2 w vm m.length (ceL m))
    (hg : rfmsG f = true) (hk0 : 0 ≤ k) (hk1 : k < (f.length : Int)) (hgm : goodMs m = true)
    (FIT : ∀ W, Below w.heap.size w W → ∀ (j : Nat), j < f.length → ∀ c, goodC c = true → Calls Tryz.prog 44 #[va, .int .i64 (j : Int), ceV c] W (FitT (fitP f j c) W)) :
    Calls Tryz.prog 20 #[va, .int .i64 k, vm] w fun e w' => e = .returned (.bool (fitL f [k] m)) ∧ Below w.heap.size w w' := by
  have GF := Lib.hid (dgoodForms_any T h hf hl)
  rw [hg] at GF
  have FR := Lib.hid (fun (j : Nat) (c : PCe) (l : List Int) hj h => fitP_range (f := f) (k := j) (c := c) (l := l) hg hj h)
  obtain ⟨a, c, rfl⟩ := h.slice
  have HM := Lib.hid hm
  obtain ⟨a2, c2, rfl⟩ := hm.slice
  have HG := Lib.hid hgm
  have HF := Lib.hid FIT
  have hlm := (goodMs_iff.1 hgm).1
  have HB := Lib.hid (goodMs_iff.1 hgm).2
  have AL := Lib.hid (whB_all _ 1 (goodMs_iff.1 hgm).2)
  obtain ⟨kn, rfl⟩ := Int.eq_ofNat_of_zero_le hk0
  have hn1 : decide ((kn : Int) < 0) = false := decide_eq_false (by omega)
  have hn2 : decide ((f.length : Int) ≤ (kn : Int)) = false := decide_eq_false (by omega)
  have hn3 : decide (f.length ≤ kn) = false := decide_eq_false (by omega)
  have hkn : kn < f.length := by omega
  obtain ⟨R, hR⟩ : ∃ R, fitL f [(kn : Int)] m = R := ⟨_, rfl⟩
  have ER := Lib.hid hR
  rw [hR]
  obtain ⟨ii, hii, hi0, hi1, hi2⟩ := info_parts info_intD
  clear hm hl hf h T hgm FIT hg hR hk0 hk1
  go_enter Tryz.func20, Tryz.ntmps20
  go_wp2_with fail
  refine GF.out.mono ?_
  rintro e w1 ⟨rfl, b1⟩
  have B1 := Lib.hid b1
  clear b1
  go_wp2_with fail
  refine (dgood_is HG.out (HM.out.below B1.out)).mono ?_
  rintro e w2 ⟨rfl, b2⟩
  have B2 := Lib.hid (bl_call B1.out b2)
  clear b2
  go_wp2_with fail
  obtain ⟨W2, hW2⟩ : ∃ W2, W2 = (w2.alloc (.cells (Tryz.zeroCells95.setIfInBounds 0 (.int .i64 (kn : Int))) 95)).alloc (.cells #[.int .i64 (kn : Int)] 3) := ⟨_, rfl⟩
  rw [← hW2]
  have M2 : Hid (FitM w w2.heap.size [(kn : Int)] W2) := by
    refine ⟨by rw [hW2]; exact bl_alloc (bl_alloc B2.out _) _, ?_, B2.out.size⟩
    rw [hW2]
    refine ⟨List.replicate 99 (.int .i64 0), ?_, by simp [intsV], by simp [intsV]⟩
    have e : Tryz.zeroCells95.setIfInBounds 0 (.int .i64 (kn : Int)) = ⟨.int .i64 (kn : Int) :: List.replicate 99 (.int .i64 0)⟩ := by rfl
    rw [e]
    exact (rowAt.made w2 _ _).alloc _
  clear hW2
  obtain ⟨gr, hgr⟩ : ∃ gr, w2.heap.size = gr := ⟨_, rfl⟩
  rw [hgr] at M2 ⊢
  clear hgr hn1 hn2 hn3
  go_loopw [8, 38] (fun v i wr => ∃ (j : Nat) (ks : List Int), i = .int .i64 j ∧ v = .slice (some ⟨gr, 0, none⟩) ks.length 100 ∧ j ≤ m.length ∧ Hid (FitM w gr ks wr) ∧ Hid (R = fitL f ks (m.drop j)) ∧ Hid (whB (ks.length : Int) (m.drop j) = true) ∧ Hid (∀ x ∈ ks, 0 ≤ x ∧ x < (f.length : Int))) (fun _ i _ => m.length - (intOf i).toNat)
  case atStart => exact ⟨0, [(kn : Int)], rfl, rfl, Nat.zero_le _, M2, Lib.hid ER.out.symm, HB, Lib.hid (fun x hx => by rw [List.mem_singleton] at hx; omega)⟩
  case round =>
    obtain ⟨j, ks, rfl, rfl, hj, HK, HR, HW, HX⟩ := hrel
    by_cases hlt : j < m.length
    · have hx := Lib.hid (List.getElem?_eq_getElem hlt)
      have hgc := AL.out _ (List.getElem_mem hlt)
      have hB := HW.out
      have hR := HR.out
      rw [List.drop_eq_getElem_cons hlt] at hB hR
      generalize m[j] = c at *
      obtain ⟨hG0, _, hB2⟩ := whB_cons hB
      have hGl := whB_len _ _ (by omega) HW.out
      rw [List.length_drop] at hGl
      obtain ⟨q, ks', rfl⟩ : ∃ q ks', ks = q :: ks' := by
        cases ks with
        | nil => exact absurd rfl hG0
        | cons q ks' => exact ⟨q, ks', rfl⟩
      rw [List.length_cons] at hGl
      obtain ⟨q0, q1⟩ := HX.out q (by simp)
      obtain ⟨qn, rfl⟩ := Int.eq_ofNat_of_zero_le q0
      have FC := Lib.hid (fun W hb => HF.out W hb qn (by omega) c hgc)
      have hR2 : R = match fitP f qn c with | none => false | some l => fitL f (l.reverse ++ ks') (m.drop (j + 1)) := by
        rw [hR]
        simp only [fitL, Int.toNat_natCast]
        all_goals rfl
      have HR2 := Lib.hid hR2
      have FPL := Lib.hid (fun l (h : fitP f qn c = some l) => fitP_len h hgc)
      have FPR := Lib.hid (fun l (h : fitP f qn c = some l) => FR.out qn c l (by omega) h)
      have HB2 := Lib.hid hB2
      obtain ⟨b, o, cap', e, hb, -, c0, c1, c2', c3⟩ := ce_cells (HM.out.below HK.out.b) hx.out
      cases e
      obtain ⟨PP, hc1⟩ := HK.out.pop
      have hjI : (j : Int) < (m.length : Int) := by omega
      have hl1 : (((((qn : Nat) : Int) :: ks').length : Nat) : Int) = (ks'.length : Int) + 1 := by simp
      have hl2 : (ks'.length : Int) < (ks'.length : Int) + 1 := by omega
      have hl3 : (0 : Int) ≤ (ks'.length : Int) := by omega
      have hks : ks'.length + 1 ≤ 100 := by omega
      obtain ⟨W1, hW1⟩ : ∃ W1, wr.alloc (.cells #[.int .i64 c.1, .int .i64 c.2.1, .int .i64 c.2.2.1, .string c.2.2.2] 51) = W1 := ⟨_, rfl⟩
      have bw : Below wr.heap.size wr W1 := by rw [← hW1]; exact bl_alloc (Below.refl _ _) _
      have K1 := Lib.hid (HK.out.below bw)
      have RC1 := Lib.hid (show rowAt W1 wr.heap.size 51 (ceC c) by rw [← hW1]; exact rowAt.made _ _ _)
      have KD := Lib.hid (K1.out.below (bl_drew (Below.refl _ _)))
      have G0 := Lib.hid (And.intro K1.out.pop.2 (cells4 RC1.out))
      have G1 := Lib.hid (And.intro KD.out.pop.2 (cells4 RC1.out.drew))
      clear hgc hB hB2 hR hR2 hG0 hGl bw PP hc1 q0 q1
      go_wp2_with fail
      clear hW1
      go_region_held3 (fun w' => w'.cell? ⟨gr, ks'.length, none⟩ = some (.int .i64 (qn : Int)) ∧ w'.cell? ⟨wr.heap.size, 0, none⟩ = some (.int .i64 c.1) ∧ w'.cell? ⟨wr.heap.size, 1, none⟩ = some (.int .i64 c.2.1) ∧ w'.cell? ⟨wr.heap.size, 2, none⟩ = some (.int .i64 c.2.2.1) ∧ w'.cell? ⟨wr.heap.size, 3, none⟩ = some (.string c.2.2.2))
        (first | with_reducible exact G0.out | with_reducible exact G1.out | with_reducible exact G3.out)
        ((go_at_call 44
          refine (FC.out _ KD.out.b).mono ?_
          rintro e w3 ⟨v3, b3, rfl, hb3, hfr⟩
          have K3 := Lib.hid (KD.out.below hb3)
          have G3 := Lib.hid (And.intro K3.out.pop.2 (cells4 (RC1.out.drew.below hb3 RC1.out.lt)))
          have FR3 := Lib.hid hfr
          have LOW := Lib.hid (show gr < W1.drew.heap.size from KD.out.t.lt)
          clear hb3 hfr))
      rcases FR3.out with ⟨l, fa, fcap, hl, rfl, rfl, hown⟩ | ⟨hl, rfl⟩
      · have E := Lib.hid (show R = fitL f (l.reverse ++ ks') (m.drop (j + 1)) by rw [HR2.out, hl])
        have LL := Lib.hid (FPL.out l hl)
        have hl8 : l.length ≤ 8 := by
          have h1 := LL.out
          have h2 := hasC_nn (AL.out c (List.mem_of_getElem? hx.out))
          omega
        have W3' := Lib.hid (show whB ((l.length + ks'.length : Nat) : Int) (m.drop (j + 1)) = true by
          have h2 := HB2.out
          rw [← LL.out, List.length_cons] at h2
          have e : ((ks'.length + 1 : Nat) : Int) + ((l.length : Int) - 1) = ((l.length + ks'.length : Nat) : Int) := by omega
          rwa [e] at h2)
        have hroom : ks'.length + l.length ≤ 100 := by
          have := whB_len _ _ (by omega) W3'.out
          rw [List.length_drop] at this
          omega
        have LR := Lib.hid (FPR.out l hl)
        have OW := Lib.hid hown
        have P3 := Lib.hid K3.out.pop.1
        clear hl hown FR3
        have hs2 : ∀ W, (Instr.slice 55 (.slice (some ⟨gr, 0, none⟩) (ks'.length + 1) 100) none (some (.int .i64 (ks'.length : Int))) none).run Tryz.prog W = .ok (.slice (some ⟨gr, 0, none⟩) ks'.length 100) W := fun W => run_slice_to_w _ _ under_intsD hii _ (by omega) (by omega) W
        have hnw : (intsV l).length = l.length * 1 := by simp [intsV]
        go_wp2_with (at_builtin; refine wpList_append_in (by rfl) _ _ _ (by rfl) 3 ii 1 under_intsD hii hi1 P3.out (by rfl) fa l.length fcap (intsV l) (by rfl) hnw (owns_src OW.out) (intsV_one _) hroom ?_; intro w7 ht7 hu7; have M7 := Lib.hid (K3.out.todo (us := l.reverse ++ ks') (n := ks'.length + l.length) (by simpa [intsV] using ht7) (by simp; omega) hu7); clear ht7 hu7)
        go_roundw
        case rel => exact ⟨j + 1, l.reverse ++ ks', by go_num, by simp [Nat.add_comm], by omega, M7, E, Lib.hid (by rw [List.length_append, List.length_reverse]; exact W3'.out), Lib.hid (fun x hx => (List.mem_append.1 hx).elim (fun h => LR.out x (List.mem_reverse.1 h)) (fun h => HX.out x (List.mem_cons_of_mem _ h)))⟩
        case measure => simp [intOf]; omega
      · have E := Lib.hid (show false = R by rw [HR2.out, hl])
        clear hl FR3
        go_wp2_with fail
        go_ret
        exact ⟨ret_bool E.out, K3.out.b⟩
    · obtain rfl : j = m.length := by omega
      have E := Lib.hid (show true = R by rw [HR.out, List.drop_length]; cases ks <;> rfl)
      clear HR
      go_wp2_with fail
      go_ret
      exact ⟨ret_bool E.out, HK.out.b⟩
end Go.Proofs.YtnjpjhlodamanaaGreatDoor

/-
  Package data: what a form says of a cell ('fit'): ints, lists.
  Conditions: as each states.
-/
namespace Go.Proofs.YtnjpjhlodamanaaGreatDoor
set_option linter.unusedVariables false
set_option linter.unusedSimpArgs false
open Go.ChangeShapes Go.WideShapes Go.ChangeAt Go.RowKit
set_option maxRecDepth 100000

theorem fm_cells {S : Nat → Prop} {w : World} {v : Value} {f : List PFm} (h : fmsAt S w v f) {k : Nat} {m : PFm} (hk : f[k]? = some m) :
    ∃ b o cap va, v = .slice (some ⟨b, o, none⟩) f.length cap ∧ b < w.heap.size ∧ w.cell? ⟨b, o + k * 4, none⟩ = some (.int .i64 m.1) ∧ w.cell? ⟨b, o + k * 4 + 1, none⟩ = some (.int .i64 m.2.1) ∧ w.cell? ⟨b, o + k * 4 + 2, none⟩ = some (.int .i64 m.2.2.1) ∧ w.cell? ⟨b, o + k * 4 + 3, none⟩ = some va ∧ rdAt S w va m.2.2.2.length (intsV m.2.2.2) := by
  obtain ⟨a, cap, rfl, h⟩ := h
  rcases h with h0 | ⟨b, o, rfl, hS, hb, hc⟩
  · have := (List.getElem?_eq_some_iff.1 hk).1; omega
  · obtain ⟨e0, e1, e2, va, e3, hr⟩ := hc k m hk
    exact ⟨b, o, cap, va, rfl, hb, e0, e1, e2, e3, hr⟩
theorem num_text : (⟨#[]⟩ : ByteArray) = noText := rfl
set_option maxHeartbeats 16000000 in
theorem fit_1 {S : Nat → Prop} {w : World} {v : Value} {f : List PFm} (h : fmsAt S w v f) {k : Nat} {a b : Int} {cons : List Int} (hk : f[k]? = some (1, a, b, cons)) (c : PCe) :
    Calls Tryz.prog 44 #[v, .int .i64 (k : Int), ceV c] w (FitT (fitP f k c) w) := by
  have E := Lib.hid (show fitP f k c = if c.1 = 0 then some [] else none by unfold fitP; rw [hk]; rfl)
  obtain ⟨fb, fo, cap, va, rfl, hfb, e0, e1, e2, e3, hr⟩ := fm_cells h hk
  obtain ⟨ca, cc, rfl⟩ := hr.slice
  have hlt := (List.getElem?_eq_some_iff.1 hk).1
  have hkI : (k : Int) < (f.length : Int) := by omega
  simp only at e0 e1 e2 e3
  obtain ⟨ck, ct, cn, cs⟩ := c
  simp only at E
  clear h hk hr
  have BB := Lib.hid (fun o o2 => bl_alloc (bl_alloc (Below.refl w.heap.size w) o) o2)
  by_cases h0 : ck = 0
  · subst h0
    have E1 := Lib.hid (show fitP f k (0, ct, cn, cs) = some [] by rw [E.out]; rfl)
    go_enter Tryz.func44, Tryz.ntmps44
    go_wp2_with fail
    go_quiet (fail)
    go_wp2_with fail
    refine bodyPost_ret (v := .tuple #[.slice none 0 0, .bool true]) (by simp [results, Tryz.results44, go_sem]) rfl ⟨_, _, rfl, below_draws (BB.out _ _) _, .inl ⟨[], none, 0, E1.out, rfl, rfl, ⟨rfl, .inl ⟨rfl, rfl⟩⟩⟩⟩
  · have E1 := Lib.hid (show fitP f k (ck, ct, cn, cs) = none by rw [E.out, if_neg h0])
    have t0 : (ck == 0) = false := beq_eq_false_iff_ne.2 h0
    go_enter Tryz.func44, Tryz.ntmps44
    go_wp2_with fail
    go_quiet (fail)
    go_wp2_with fail
    refine bodyPost_ret (v := .tuple #[.slice none 0 0, .bool false]) (by simp [results, Tryz.results44, go_sem]) rfl ⟨_, _, rfl, below_draws (BB.out _ _) _, .inr ⟨E1.out, rfl⟩⟩
set_option maxHeartbeats 16000000 in
theorem fit_6_nil {S : Nat → Prop} {w : World} {v : Value} {f : List PFm} (h : fmsAt S w v f) {k : Nat} {a b : Int} {cons : List Int} (hk : f[k]? = some (6, a, b, cons)) (c : PCe) (hc : c = numCe 0) :
    Calls Tryz.prog 44 #[v, .int .i64 (k : Int), ceV c] w (FitT (fitP f k c) w) := by
  have E := Lib.hid (show fitP f k c = some [] by unfold fitP; rw [hk]; simp [hc])
  have q1 : ∀ w, (Op.equalIn 10000 51 (.agg #[.int .i64 c.1, .int .i64 c.2.1, .int .i64 c.2.2.1, .string c.2.2.2]) (.agg #[.int .i64 0, .int .i64 0, .int .i64 0, .string ⟨#[]⟩])).run Tryz.prog w = .ok true w := fun w => by rw [run_ce_eq]; exact congrArg (Result.ok · w) ((ceEq_iff c (numCe 0)).2 hc)
  clear hc
  obtain ⟨fb, fo, cap, va, rfl, hfb, e0, e1, e2, e3, hr⟩ := fm_cells h hk
  obtain ⟨ca, cc, rfl⟩ := hr.slice
  have hlt := (List.getElem?_eq_some_iff.1 hk).1
  have hkI : (k : Int) < (f.length : Int) := by omega
  simp only at e0 e1 e2 e3
  obtain ⟨ck, ct, cn, cs⟩ := c
  simp only at E q1
  clear h hk hr
  obtain ⟨W, hW⟩ : ∃ W, (w.alloc (.cells #[.int .i64 ck, .int .i64 ct, .int .i64 cn, .string cs] 51)).alloc (.cells #[.int .i64 6, .int .i64 a, .int .i64 b, .slice ca cons.length cc] 57) = W := ⟨_, rfl⟩
  have r1 : rowAt W w.heap.size 51 [.int .i64 ck, .int .i64 ct, .int .i64 cn, .string cs] := by rw [← hW]; exact (rowAt.made _ _ _).alloc _
  have r2 : rowAt W (w.heap.size + 1) 57 [.int .i64 6, .int .i64 a, .int .i64 b, .slice ca cons.length cc] := by rw [← hW]; exact rowAt.made_at _ _ (by simp)
  have BW := Lib.hid (show Below w.heap.size w W by rw [← hW]; exact bl_alloc (bl_alloc (Below.refl _ _) _) _)
  have R1 := Lib.hid r1
  have R2 := Lib.hid r2
  clear r1 r2
  obtain ⟨p0, p1, p2, p3⟩ := cells4 R1.out
  obtain ⟨m0, m1, m2, m3⟩ := cells4 R2.out
  have hs2 : w.heap.size + 1 < W.heap.size := R2.out.lt
  have G0 := Lib.hid (cells4 R1.out)
  have G1 := Lib.hid (cells4 R1.out.drew)
  go_enter Tryz.func44, Tryz.ntmps44
  go_wp2_with fail
  clear hW
  go_region_held3 (fun w' => w'.cell? ⟨w.heap.size, 0, none⟩ = some (.int .i64 ck) ∧ w'.cell? ⟨w.heap.size, 1, none⟩ = some (.int .i64 ct) ∧ w'.cell? ⟨w.heap.size, 2, none⟩ = some (.int .i64 cn) ∧ w'.cell? ⟨w.heap.size, 3, none⟩ = some (.string cs))
    (first | with_reducible exact G0.out | with_reducible exact G1.out | with_reducible exact ⟨y0, y1, y2, y3⟩)
    ((go_at_call 61; refine (numberOf_any _ _).mono ?_; rintro e w3 ⟨rfl, b3⟩; have S1 := Lib.hid (R1.out.drew.below b3 R1.out.lt); have S2 := Lib.hid (R2.out.drew.below b3 R2.out.lt); have B3 := Lib.hid (bl_call (bl_drew BW.out) b3); obtain ⟨y0, y1, y2, y3⟩ := cells4 S1.out; clear b3))
  go_wp2_with fail
  refine bodyPost_ret (v := .tuple #[.slice none 0 0, .bool true]) (by simp [results, Tryz.results44, go_sem]) rfl ⟨_, _, rfl, B3.out, .inl ⟨[], none, 0, E.out, rfl, rfl, ⟨rfl, .inl ⟨rfl, rfl⟩⟩⟩⟩
set_option maxHeartbeats 16000000 in
theorem fit_6_two {S : Nat → Prop} {w : World} {v : Value} {f : List PFm} (h : fmsAt S w v f) {k : Nat} {a b : Int} {cons : List Int} (hk : f[k]? = some (6, a, b, cons)) (c : PCe) (hc : c ≠ numCe 0) :
    Calls Tryz.prog 44 #[v, .int .i64 (k : Int), ceV c] w (FitT (fitP f k c) w) := by
  have E := Lib.hid (show fitP f k c = if c = blkCe 1 2 then some [(k : Int), a] else none by unfold fitP; rw [hk]; simp [hc])
  obtain ⟨bb, hbb⟩ : ∃ bb, ceEq c (blkCe 1 2) = bb := ⟨_, rfl⟩
  have HBB := Lib.hid hbb
  have IFF := Lib.hid (ceEq_iff c (blkCe 1 2))
  have q1 : ∀ w, (Op.equalIn 10000 51 (.agg #[.int .i64 c.1, .int .i64 c.2.1, .int .i64 c.2.2.1, .string c.2.2.2]) (.agg #[.int .i64 0, .int .i64 0, .int .i64 0, .string ⟨#[]⟩])).run Tryz.prog w = .ok false w := fun w => by rw [run_ce_eq]; exact congrArg (Result.ok · w) (ceEq_false hc)
  have q2 : ∀ w, (Op.equalIn 10000 51 (.agg #[.int .i64 c.1, .int .i64 c.2.1, .int .i64 c.2.2.1, .string c.2.2.2]) (.agg #[.int .i64 1, .int .i64 1, .int .i64 2, .string ⟨#[]⟩])).run Tryz.prog w = .ok bb w := fun w => by rw [run_ce_eq]; exact congrArg (Result.ok · w) hbb
  clear hc hbb
  obtain ⟨fb, fo, cap, va, rfl, hfb, e0, e1, e2, e3, hr⟩ := fm_cells h hk
  obtain ⟨ca, cc, rfl⟩ := hr.slice
  have hlt := (List.getElem?_eq_some_iff.1 hk).1
  have hkI : (k : Int) < (f.length : Int) := by omega
  simp only at e0 e1 e2 e3
  obtain ⟨ck, ct, cn, cs⟩ := c
  simp only at E q1 q2
  clear h hk hr
  obtain ⟨W, hW⟩ : ∃ W, (w.alloc (.cells #[.int .i64 ck, .int .i64 ct, .int .i64 cn, .string cs] 51)).alloc (.cells #[.int .i64 6, .int .i64 a, .int .i64 b, .slice ca cons.length cc] 57) = W := ⟨_, rfl⟩
  have r1 : rowAt W w.heap.size 51 [.int .i64 ck, .int .i64 ct, .int .i64 cn, .string cs] := by rw [← hW]; exact (rowAt.made _ _ _).alloc _
  have r2 : rowAt W (w.heap.size + 1) 57 [.int .i64 6, .int .i64 a, .int .i64 b, .slice ca cons.length cc] := by rw [← hW]; exact rowAt.made_at _ _ (by simp)
  have BW := Lib.hid (show Below w.heap.size w W by rw [← hW]; exact bl_alloc (bl_alloc (Below.refl _ _) _) _)
  have R1 := Lib.hid r1
  have R2 := Lib.hid r2
  clear r1 r2
  obtain ⟨p0, p1, p2, p3⟩ := cells4 R1.out
  obtain ⟨m0, m1, m2, m3⟩ := cells4 R2.out
  have hs2 : w.heap.size + 1 < W.heap.size := R2.out.lt
  have G0 := Lib.hid (cells4 R1.out)
  have G1 := Lib.hid (cells4 R1.out.drew)
  go_enter Tryz.func44, Tryz.ntmps44
  go_wp2_with fail
  clear hW
  go_region_held3 (fun w' => w'.cell? ⟨w.heap.size, 0, none⟩ = some (.int .i64 ck) ∧ w'.cell? ⟨w.heap.size, 1, none⟩ = some (.int .i64 ct) ∧ w'.cell? ⟨w.heap.size, 2, none⟩ = some (.int .i64 cn) ∧ w'.cell? ⟨w.heap.size, 3, none⟩ = some (.string cs))
    (first | with_reducible exact G0.out | with_reducible exact G1.out | with_reducible exact ⟨y0, y1, y2, y3⟩)
    ((go_at_call 61; refine (numberOf_any _ _).mono ?_; rintro e w3 ⟨rfl, b3⟩; have S1 := Lib.hid (R1.out.drew.below b3 R1.out.lt); have S2 := Lib.hid (R2.out.drew.below b3 R2.out.lt); have B3 := Lib.hid (bl_call (bl_drew BW.out) b3); obtain ⟨y0, y1, y2, y3⟩ := cells4 S1.out; clear b3))
  obtain ⟨x0, x1, x2, x3⟩ := cells4 S2.out
  have H0 := Lib.hid (And.intro (cells4 S1.out) x1)
  have H1 := Lib.hid (And.intro (cells4 S1.out.drew) ((cells4 S2.out.drew).2.1))
  have H2 := Lib.hid (And.intro (cells4 (S1.out.alloc (.cells #[.int .i64 (k : Int), .int .i64 a] 3))) ((cells4 (S2.out.alloc (.cells #[.int .i64 (k : Int), .int .i64 a] 3))).2.1))
  have H3 := Lib.hid (And.intro (cells4 (S1.out.alloc (.cells #[.int .i64 (k : Int), .int .i64 a] 3)).drew) ((cells4 (S2.out.alloc (.cells #[.int .i64 (k : Int), .int .i64 a] 3)).drew).2.1))
  clear y0 y1 y2 y3
  go_wp2_with fail
  go_region_held3 (fun w' => (w'.cell? ⟨w.heap.size, 0, none⟩ = some (.int .i64 ck) ∧ w'.cell? ⟨w.heap.size, 1, none⟩ = some (.int .i64 ct) ∧ w'.cell? ⟨w.heap.size, 2, none⟩ = some (.int .i64 cn) ∧ w'.cell? ⟨w.heap.size, 3, none⟩ = some (.string cs)) ∧ w'.cell? ⟨w.heap.size + 1, 1, none⟩ = some (.int .i64 a))
    (first | with_reducible exact H0.out | with_reducible exact H1.out | with_reducible exact H2.out | with_reducible exact H3.out | with_reducible exact H4.out | with_reducible exact H5.out)
    (first
      | (go_at_call 64
         with_reducible refine (blockOf_any 1 2 w3.drew).mono ?_
         rintro e w5 ⟨rfl, b5⟩
         have T1 := Lib.hid (S1.out.drew.below b5 S1.out.lt)
         have T2 := Lib.hid (S2.out.drew.below b5 S2.out.lt)
         have H4 := Lib.hid (And.intro (cells4 T1.out) ((cells4 T2.out).2.1))
         have H5 := Lib.hid (And.intro (cells4 (T1.out.alloc (.cells #[.int .i64 (k : Int), .int .i64 a] 3))) ((cells4 (T2.out.alloc (.cells #[.int .i64 (k : Int), .int .i64 a] 3))).2.1))
         have FIN : Hid (∃ g, g = w5.heap.size ∧ rowAt (w5.alloc (.cells #[.int .i64 (k : Int), .int .i64 a] 3)) g 3 [.int .i64 (k : Int), .int .i64 a] ∧ w.heap.size ≤ g ∧ Below w.heap.size w (w5.alloc (.cells #[.int .i64 (k : Int), .int .i64 a] 3))) := by
           have hb := bl_call (bl_drew B3.out) b5
           exact ⟨_, rfl, rowAt.made _ _ _, hb.size, bl_alloc hb _⟩
         clear b5)
      | (go_at_call 64
         with_reducible refine (blockOf_any 1 2 (w3.alloc (.cells #[.int .i64 (k : Int), .int .i64 a] 3)).drew).mono ?_
         rintro e w5 ⟨rfl, b5⟩
         have r5 := (rowAt.made w3 3 [.int .i64 (k : Int), .int .i64 a]).drew.below b5 (by simp)
         have H4 := Lib.hid (And.intro (cells4 ((S1.out.alloc (.cells #[.int .i64 (k : Int), .int .i64 a] 3)).drew.below b5 (S1.out.alloc (.cells #[.int .i64 (k : Int), .int .i64 a] 3)).lt)) ((cells4 ((S2.out.alloc (.cells #[.int .i64 (k : Int), .int .i64 a] 3)).drew.below b5 (S2.out.alloc (.cells #[.int .i64 (k : Int), .int .i64 a] 3)).lt)).2.1))
         have FIN : Hid (∃ g, g = w3.heap.size ∧ rowAt w5 g 3 [.int .i64 (k : Int), .int .i64 a] ∧ w.heap.size ≤ g ∧ Below w.heap.size w w5) := ⟨_, rfl, r5, B3.out.size, bl_call (bl_drew (bl_alloc B3.out _)) b5⟩
         clear b5 r5))
  all_goals
    obtain ⟨g, hg, hrow, hlo, hbl⟩ := FIN.out
    go_wp2_with fail
    refine bodyPost_ret (v := .tuple #[.slice (some ⟨g, 0, none⟩) 2 2, .bool bb]) (by simp [results, Tryz.results44, go_sem, hg]) rfl ⟨_, _, rfl, hbl, ?_⟩
    cases bb
    · exact .inr ⟨by rw [E.out, if_neg (fun e => by have := IFF.out.2 e; rw [HBB.out] at this; cases this)], rfl⟩
    · refine .inl ⟨[(k : Int), a], some ⟨g, 0, none⟩, 2, by rw [E.out, if_pos (IFF.out.1 HBB.out)], rfl, rfl, ?_⟩
      exact owns_mk (rest := []) hrow hlo rfl rfl (Nat.le_refl _) (by decide)
end Go.Proofs.YtnjpjhlodamanaaGreatDoor
