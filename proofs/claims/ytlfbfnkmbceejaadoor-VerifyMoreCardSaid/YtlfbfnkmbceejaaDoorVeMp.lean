/-
  What the law VerifyMore leans on: programs with a function, a text, a form more; bits.
  Conditions: as each states.
-/
import Derived.Test.YtlfbfnkmbceejaaDoorVeBw
import Derived.Test.YtlfbfnkmbceejaaDoorCoOp
namespace Go.Proofs.YtlfbfnkmbceejaaDoor
open Go.ChangeShapes Go.WideShapes Go.ChangeAt Go.RowKit
set_option linter.unusedVariables false
set_option linter.unusedSimpArgs false
set_option maxRecDepth 100000

def moreFn : PFn := (1, 0, [(2, 0, 0), (9, 0, 0)])
def badFn : PFn := (1, 0, [(2, 0, 0)])
def moreSt : ByteArray := ⟨#[109, 111, 114, 101]⟩
def moreFm : PFm := (1, 0, 0, [])
def moreP (P : PPr) : PPr := (P.1 ++ [moreFn], P.2.1 ++ [moreSt], P.2.2 ++ [moreFm])
def badP (P : PPr) : PPr := (P.1 ++ [badFn], P.2.1, P.2.2)

theorem allI_app {α : Type} (g : Nat → α → Bool) : ∀ (l m : List α) (k : Nat), allI g k (l ++ m) = (allI g k l && allI g (k + l.length) m)
  | [], m, k => by simp [allI]
  | x :: l, m, k => by simp only [List.cons_append, allI, allI_app g l m (k + 1), List.length_cons, Bool.and_assoc]; rw [show k + 1 + l.length = k + (l.length + 1) by omega]
theorem belowB_mono {n m k : Int} (h : belowB n m = true) (hk : m ≤ k) : belowB n k = true := by
  unfold belowB at h ⊢
  have := of_decide_eq_true h
  exact decide_eq_true ⟨this.1, by omega⟩
theorem fmG_mono {n n' : Nat} (hn : n ≤ n') {m : PFm} (h : fmG n m = true) : fmG n' m = true := by
  have hI : (n : Int) ≤ n' := by omega
  unfold fmG at h ⊢
  split
  · rename_i c; rw [if_pos c] at h; exact h
  · rename_i c
    rw [if_neg c] at h
    split
    · rename_i c; rw [if_pos c] at h
      simp only [Bool.and_eq_true] at h ⊢
      exact ⟨belowB_mono h.1 hI, belowB_mono h.2.1 hI, h.2.2⟩
    · rename_i c; rw [if_neg c] at h
      split
      · rename_i c; rw [if_pos c] at h
        simp only [Bool.and_eq_true] at h ⊢
        exact ⟨belowB_mono h.1 hI, h.2.1, h.2.2⟩
      · rename_i c; rw [if_neg c] at h
        split
        · rename_i c; rw [if_pos c] at h
          simp only [Bool.and_eq_true] at h ⊢
          refine ⟨h.1, h.2.1, ?_⟩
          unfold consG at h ⊢
          rw [Bool.and_eq_true] at h ⊢
          refine ⟨h.2.2.1, allI_true fun j x hj hx => ?_⟩
          have := allI_at h.2.2.2 hx
          unfold conG at this ⊢
          rw [Bool.or_eq_true] at this ⊢
          exact this.imp_right fun t => belowB_mono t hI
        · rename_i c; rw [if_neg c] at h; cases h
theorem prG_more {P : PPr} (h : prG P = true) (h1 : P.1.length < 60) (h2 : P.2.1.length < 40) (h3 : P.2.2.length < 40) : prG (moreP P) = true := by
  rw [pr_eq] at h ⊢
  simp only [Bool.and_eq_true, decide_eq_true_eq] at h
  obtain ⟨-, hf, hs, hm⟩ := h
  have e1 : decide ((moreP P).1.length ≤ 60 ∧ (moreP P).2.1.length ≤ 40 ∧ (moreP P).2.2.length ≤ 40) = true := decide_eq_true (by unfold moreP; simp; omega)
  unfold fnsG at hf
  rw [Bool.and_eq_true, decide_eq_true_eq] at hf
  have e2 : fnsG (moreP P).1 = true := by
    unfold fnsG moreP
    rw [Bool.and_eq_true]
    refine ⟨decide_eq_true (by simp), ?_⟩
    simp only
    rw [allI_app, hf.2, Bool.true_and, Nat.zero_add]
    have hk : fnK P.1.length moreFn = fnG moreFn := by rw [fnK_s _ (by omega)]; rfl
    simp only [allI, Bool.and_true]
    rw [hk]
    decide +kernel
  have e3 : strsG (moreP P).2.1 = true := by
    unfold strsG moreP at *
    simp only
    rw [allI_app, hs, Bool.true_and]
    rfl
  have e4 : fmsG (moreP P).2.2 = true := by
    unfold fmsG moreP at *
    simp only
    refine allI_true fun j x hj hx => ?_
    rw [List.length_append]
    by_cases hlt : j < P.2.2.length
    · rw [List.getElem?_append_left hlt] at hx
      exact fmG_mono (by omega) (allI_at hm hx)
    · rw [List.getElem?_append_right (by omega)] at hx
      have hx' : x = moreFm := by
        rcases hq : j - P.2.2.length with _ | q
        · rw [hq] at hx; simpa using hx.symm
        · rw [hq] at hx; simp at hx
      subst hx'
      rfl
  rw [e1, e2, e3, e4]; rfl
theorem there_more {P : PPr} {f : PFn} {p : PIns} (hp : insG p = true) (h : thereP P f p = true) : thereP (moreP P) f p = true := by
  unfold thereP at h ⊢
  split
  · rename_i c; rw [if_pos c] at h; exact h
  · rename_i c; rw [if_neg c] at h
    split
    · rename_i c; rw [if_pos c] at h; exact h
    · rename_i c; rw [if_neg c] at h
      split
      · rename_i c; rw [if_pos c] at h
        have := of_decide_eq_true h
        exact decide_eq_true (by unfold moreP; simp; omega)
      · rename_i c; rw [if_neg c] at h
        split
        · rename_i c; rw [if_pos c] at h
          rw [Bool.and_eq_true, decide_eq_true_eq, decide_eq_true_eq] at h ⊢
          have hb : 0 ≤ p.2.1 := by
            obtain ⟨o, a, b⟩ := p
            simp only at c; subst c
            exact (close_bd hp).1
          have hlt : p.2.1.toNat < P.1.length := by omega
          refine ⟨by unfold moreP; simp; omega, ?_⟩
          rw [h.2]
          unfold moreP
          simp only
          rw [List.getD_eq_getElem?_getD, List.getD_eq_getElem?_getD, List.getElem?_append_left hlt]
        · rename_i c; rw [if_neg c] at h
          split
          · rename_i c; rw [if_pos c] at h; exact h
          · rename_i c; rw [if_neg c] at h
            split
            · rename_i c; rw [if_pos c] at h
              rw [Bool.or_eq_true, decide_eq_true_eq, decide_eq_true_eq] at h ⊢
              exact h.imp_right fun t => by unfold moreP; simp; omega
            · rfl
theorem sts_more : (stsP moreFn.2.2).isSome = true := by decide +kernel
theorem sts_bad : stsP badFn.2.2 = none := by decide +kernel
theorem there_moreFn (P : PPr) : allI (fun _ p => thereP P moreFn p) 0 moreFn.2.2 = true := by
  simp [moreFn, allI, thereP]
theorem rights_more {P : PPr} (hg : prG P = true) (h : rightsP P = true) : rightsP (moreP P) = true := by
  refine allI_true fun j f hj hx => ?_
  unfold moreP at hx
  simp only at hx
  by_cases hlt : j < P.1.length
  · rw [List.getElem?_append_left hlt] at hx
    have h1 := allI_at (g := fun _ f => (rightP P f).isSome) h hx
    have fo := fnOk_of hg hx
    have h1' : (rightP P f).isSome = true := h1
    rw [rightP_eq] at h1' ⊢
    split at h1'
    · rename_i c
      rw [if_pos]
      · exact h1'
      · exact allI_true fun i p hi hp => there_more (fo.good p (List.mem_of_getElem? hp)) (allI_at (g := fun _ p => thereP P f p) c hp)
    · cases h1'
  · rw [List.getElem?_append_right (by omega)] at hx
    have hx' : f = moreFn := by
      rcases hq : j - P.1.length with _ | q
      · rw [hq] at hx; simpa using hx.symm
      · rw [hq] at hx; simp at hx
    subst hx'
    rw [rightP_eq, if_pos (there_moreFn _)]
    exact sts_more
theorem check_ok' {P : PPr} {g : Int} (h : checkP P g = 0) : prG P = true ∧ rightsP P = true := by
  unfold checkP at h
  split at h
  · assumption
  · cases h
theorem calls_more (P : PPr) : callsP (moreP P) = callsP P := by
  unfold callsP moreP
  rw [List.foldl_append]
  simp [callsFn, moreFn, callF]
theorem check_more {P : PPr} {g : Int} (h : checkP P g = 0) (h1 : P.1.length < 60) (h2 : P.2.1.length < 40) (h3 : P.2.2.length < 40) : checkP (moreP P) g = 0 := by
  obtain ⟨hg, hr⟩ := check_ok' h
  unfold checkP at h ⊢
  rw [if_pos ⟨hg, hr⟩] at h
  rw [if_pos ⟨prG_more hg h1 h2 h3, rights_more hg hr⟩, calls_more]
  exact h
theorem check_bad (P : PPr) (g : Int) : checkP (badP P) g = 2 := by
  refine checkP_no ?_
  rintro ⟨-, hr⟩
  have hx : (badP P).1[P.1.length]? = some badFn := by unfold badP; simp
  have := allI_at (g := fun _ f => (rightP (badP P) f).isSome) hr hx
  have h2 : (rightP (badP P) badFn).isSome = true := this
  rw [rightP_eq] at h2
  split at h2
  · rw [sts_bad] at h2; cases h2
  · cases h2
theorem or_bd : ∀ c : Fin 16, ∀ a : Fin 4, 0 ≤ bits .or .i64 (c.val : Int) (2 ^ a.val) ∧ bits .or .i64 (c.val : Int) (2 ^ a.val) < 16 := by decide +kernel
theorem and_more : ∀ c : Fin 16, ∀ g : Fin 256, bits .andNot .i64 (c.val : Int) (g.val : Int) = 0 → bits .andNot .i64 (c.val : Int) (bits .or .i64 15 (g.val : Int)) = 0 := by decide +kernel
theorem callF_bd {acc : Int} {p : PIns} (h : 0 ≤ acc ∧ acc < 16) (hp : insG p = true) : 0 ≤ callF acc p ∧ callF acc p < 16 := by
  unfold callF
  split
  · rename_i c
    obtain ⟨o, a, b⟩ := p
    simp only at c; subst c
    have ha : a = 0 ∨ a = 1 ∨ a = 2 ∨ a = 3 := host_bd hp
    have := or_bd ⟨acc.toNat, by omega⟩ ⟨a.toNat, by omega⟩
    simp only at this
    rw [show ((acc.toNat : Nat) : Int) = acc by omega] at this
    exact this
  · exact h
theorem calls_bd {P : PPr} (hg : prG P = true) : 0 ≤ callsP P ∧ callsP P < 16 := by
  have key1 : ∀ (l : List PIns) (acc : Int), (∀ p ∈ l, insG p = true) → 0 ≤ acc ∧ acc < 16 → 0 ≤ l.foldl callF acc ∧ l.foldl callF acc < 16 := by
    intro l
    induction l with
    | nil => intro acc _ h; exact h
    | cons x l ih => intro acc hl h; exact ih _ (fun p hp => hl p (List.mem_cons_of_mem _ hp)) (callF_bd h (hl x (List.mem_cons_self ..)))
  have key2 : ∀ (l : List PFn) (acc : Int), (∀ f ∈ l, ∀ p ∈ f.2.2, insG p = true) → 0 ≤ acc ∧ acc < 16 → 0 ≤ l.foldl callsFn acc ∧ l.foldl callsFn acc < 16 := by
    intro l
    induction l with
    | nil => intro acc _ h; exact h
    | cons x l ih => intro acc hl h; exact ih _ (fun f hf => hl f (List.mem_cons_of_mem _ hf)) (key1 _ _ (hl x (List.mem_cons_self ..)) h)
  refine key2 P.1 0 (fun f hf => ?_) ⟨by decide, by decide⟩
  obtain ⟨j, hj, rfl⟩ := List.getElem_of_mem hf
  exact (fnOk_of hg (List.getElem?_eq_getElem hj)).good
theorem check_15 {P : PPr} {g : Nat} (hg : g < 256) (h : checkP P g = 0) : checkP P (bits .or .i64 15 (g : Int)) = 0 ∧ bits .andNot .i64 (callsX P) (g : Int) = 0 := by
  obtain ⟨h1, h2⟩ := check_ok' h
  have hb := calls_bd h1
  unfold checkP at h
  rw [if_pos ⟨h1, h2⟩] at h
  have hz : bits .andNot .i64 (callsP P) (g : Int) = 0 := by
    unfold noGrant at h
    split at h
    · cases h
    · rename_i c; simpa using c
  have hm := and_more ⟨(callsP P).toNat, by omega⟩ ⟨g, hg⟩
  simp only at hm
  rw [show (((callsP P).toNat : Nat) : Int) = callsP P by omega] at hm
  constructor
  · unfold checkP
    rw [if_pos ⟨h1, h2⟩]
    unfold noGrant
    rw [hm hz]
    rfl
  · unfold callsX
    rw [if_pos h1]
    exact hz
theorem check_three (P : PPr) (g : Int) : checkP P g = 0 ∨ checkP P g = 2 ∨ checkP P g = 18 := by
  unfold checkP
  split
  · split
    · exact .inr (.inr rfl)
    · exact .inl rfl
  · exact .inr (.inl rfl)
end Go.Proofs.YtlfbfnkmbceejaaDoor
