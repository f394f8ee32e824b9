/-
  The states of a function as plain data: a walk over its instructions; which functions, which programs are right; the hosts' calls.
  Conditions: as each states.
-/
import Derived.Test.YtlfbfnkmbceejaaDoorCoM
import Derived.Test.YtlfbfnkmbceejaaDoorOpE
namespace Go.Proofs.YtlfbfnkmbceejaaDoor
open Go.ChangeShapes Go.WideShapes Go.ChangeAt Go.RowKit
set_option linter.unusedVariables false
set_option linter.unusedSimpArgs false
set_option maxRecDepth 100000

/-- A state: height, handlers. A walk: states, those still to be left, wrong. -/
abbrev PSt := Int × Int
structure Wk where
  st : List PSt
  td : List Nat
  wr : Bool
def stNo : PSt := (-1, -1)
def sOk (s : PSt) : Bool := decide (s.1 ≤ 100 ∧ 0 ≤ s.2 ∧ s.2 ≤ 10)
def stAt (l : List PSt) (a : Nat) : PSt := l.getD a stNo
def comeP (k : Wk) (a : Nat) (s : PSt) : Wk :=
  if k.st.length ≤ a ∨ sOk s = false then { k with wr := true }
  else if stAt k.st a = stNo then ⟨k.st.set a s, k.td ++ [a], k.wr⟩
  else if stAt k.st a = s then k else { k with wr := true }
def insAt (c : List PIns) (a : Nat) : PIns := c.getD a (0, 0, 0)
def insT (p : PIns) : Int := effT p.1 p.2.1 p.2.2
def insLv (p : PIns) : Int := effL p.1 p.2.1 p.2.2
def endOk (p : PIns) (s : PSt) : Bool := if p.1 = 9 then decide (s = (1, 0)) else if p.1 = 8 then decide (s = (2, 0)) else true
def nextP (p : PIns) (s : PSt) : PSt := (s.1 - insT p + insLv p, s.2)
def succP (p : PIns) (a : Nat) (s : PSt) : List (Nat × PSt) :=
  if p.1 = 10 then [(p.2.1.toNat, nextP p s)]
  else if p.1 = 11 then [(p.2.1.toNat, nextP p s), (a + 1, nextP p s)]
  else if p.1 = 33 then [(p.2.1.toNat, ((nextP p s).1 + 1, s.2)), (a + 1, ((nextP p s).1, s.2 + 1))]
  else if p.1 = 34 then [(a + 1, ((nextP p s).1, s.2 - 1))]
  else if opEnds p.1 = true then []
  else [(a + 1, nextP p s)]
def locOk (p : PIns) (s : PSt) : Bool := decide (insT p ≤ s.1) && endOk p s
def comesP (k : Wk) : List (Nat × PSt) → Wk
  | [] => k
  | q :: l => comesP (comeP k q.1 q.2) l
def leaveP (c : List PIns) (k : Wk) (a : Nat) : Wk :=
  if locOk (insAt c a) (stAt k.st a) = true then comesP k (succP (insAt c a) a (stAt k.st a)) else { k with wr := true }
def lastT (k : Wk) : Nat := k.td.getLastD 0
def popT (k : Wk) : Wk := { k with td := k.td.dropLast }
def stepP (c : List PIns) (k : Wk) : Wk := leaveP c (popT k) (lastT k)
def runP (c : List PIns) : Nat → Wk → Wk
  | 0, k => k
  | n + 1, k => if k.td = [] ∨ k.wr = true then k else runP c n (stepP c k)
def wk0 (c : List PIns) : Wk := comeP ⟨List.replicate c.length stNo, [], false⟩ 0 (0, 0)
def finP (c : List PIns) : Wk := runP c (c.length + 1) (wk0 c)

/-- What the walk keeps: as many states as instructions; places within them. -/
structure WkOk (c : List PIns) (k : Wk) : Prop where
  len : k.st.length = c.length
  td : ∀ a ∈ k.td, a < c.length
  sts : ∀ s ∈ k.st, s = stNo ∨ (sOk s = true)
def muP (k : Wk) : Nat := k.st.count stNo + k.td.length

theorem sOk_no {s : PSt} (h : sOk s = true) : s ≠ stNo := by
  rintro rfl; revert h; decide
theorem comeP_ok {c : List PIns} {k : Wk} (h : WkOk c k) (a : Nat) (s : PSt) : WkOk c (comeP k a s) := by
  unfold comeP
  split
  · exact ⟨h.len, h.td, h.sts⟩
  · rename_i hn
    have hlt : a < k.st.length := by omega
    have hs : sOk s = true := by cases e : sOk s <;> simp_all
    split
    · refine ⟨by simpa using h.len, fun x hx => ?_, fun x hx => ?_⟩
      · rcases List.mem_append.1 hx with hx | hx
        · exact h.td x hx
        · obtain rfl := List.mem_singleton.1 hx; rw [← h.len]; exact hlt
      · rcases List.mem_or_eq_of_mem_set hx with hx | rfl
        · exact h.sts x hx
        · exact .inr hs
    · split
      · exact h
      · exact ⟨h.len, h.td, h.sts⟩
theorem comeP_mu {k : Wk} (a : Nat) (s : PSt) : muP (comeP k a s) = muP k := by
  unfold comeP
  split
  · rfl
  · rename_i hn
    have hlt : a < k.st.length := by omega
    have hs : sOk s = true := by cases e : sOk s <;> simp_all
    split
    · rename_i he
      unfold muP
      have hg : k.st[a] = stNo := by unfold stAt at he; rw [List.getD_eq_getElem?_getD, List.getElem?_eq_getElem hlt] at he; exact he
      have := List.count_set (a := s) (b := stNo) hlt
      simp only at this ⊢
      rw [this, hg]
      have h1 : (s == stNo) = false := by rw [beq_eq_false_iff_ne]; exact sOk_no hs
      have h2 : 0 < k.st.count stNo := List.count_pos_iff.2 (hg ▸ List.getElem_mem hlt)
      simp [h1]
      omega
    · split <;> rfl
theorem comesP_ok {c : List PIns} : ∀ (l : List (Nat × PSt)) {k : Wk}, WkOk c k → WkOk c (comesP k l)
  | [], _, h => h
  | _ :: l, _, h => comesP_ok l (comeP_ok h _ _)
theorem comesP_mu : ∀ (l : List (Nat × PSt)) (k : Wk), muP (comesP k l) = muP k
  | [], _ => rfl
  | _ :: l, k => by rw [comesP, comesP_mu l, comeP_mu]
theorem leaveP_ok {c : List PIns} {k : Wk} (h : WkOk c k) (a : Nat) : WkOk c (leaveP c k a) := by
  unfold leaveP
  split
  · exact comesP_ok _ h
  · exact ⟨h.len, h.td, h.sts⟩
theorem leaveP_mu {c : List PIns} (k : Wk) (a : Nat) : muP (leaveP c k a) = muP k := by
  unfold leaveP
  split
  · exact comesP_mu _ _
  · rfl
theorem popT_ok {c : List PIns} {k : Wk} (h : WkOk c k) : WkOk c (popT k) := ⟨h.len, fun a ha => h.td a (List.dropLast_subset _ ha), h.sts⟩
theorem popT_mu {k : Wk} (h : k.td ≠ []) : muP (popT k) + 1 = muP k := by
  have : 0 < k.td.length := List.length_pos_iff.2 h
  simp [muP, popT]; omega
theorem stepP_ok {c : List PIns} {k : Wk} (h : WkOk c k) : WkOk c (stepP c k) := leaveP_ok (popT_ok h) _
theorem stepP_mu {c : List PIns} {k : Wk} (h : k.td ≠ []) : muP (stepP c k) + 1 = muP k := by
  unfold stepP; rw [leaveP_mu]; exact popT_mu h
theorem runP_done {c : List PIns} {k : Wk} (h : k.td = [] ∨ k.wr = true) : ∀ n, runP c n k = k
  | 0 => rfl
  | n + 1 => by unfold runP; rw [if_pos h]
theorem runP_step {c : List PIns} {k : Wk} (n : Nat) (h : ¬ (k.td = [] ∨ k.wr = true)) : runP c (n + 1) k = runP c n (stepP c k) := by
  conv => lhs; unfold runP
  rw [if_neg h]
theorem wk0_ok (c : List PIns) : WkOk c (wk0 c) := comeP_ok ⟨by simp, (fun a h => by cases h), fun s hs => .inl (List.eq_of_mem_replicate hs)⟩ _ _
theorem wk0_mu (c : List PIns) : muP (wk0 c) = c.length := by
  unfold wk0; rw [comeP_mu]; simp [muP]
theorem runP_ok {c : List PIns} : ∀ (n : Nat) {k : Wk}, WkOk c k → WkOk c (runP c n k)
  | 0, _, h => h
  | n + 1, k, h => by unfold runP; split; exact h; exact runP_ok n (stepP_ok h)
theorem runP_end {c : List PIns} : ∀ (n : Nat) {k : Wk}, muP k ≤ n → (runP c n k).td = [] ∨ (runP c n k).wr = true
  | 0, k, h => by
    left
    unfold muP at h
    exact List.length_eq_zero_iff.1 (by show k.td.length = 0; omega)
  | n + 1, k, h => by
    unfold runP
    split
    · assumption
    · rename_i hn
      have := stepP_mu (c := c) (k := k) fun e => hn (.inl e)
      exact runP_end n (by omega)

/-! ## Which are right -/
def thereP (P : PPr) (f : PFn) (p : PIns) : Bool :=
  if p.1 = 2 ∨ p.1 = 3 then decide (p.2.1 < f.1)
  else if p.1 = 4 then decide (p.2.1 < f.2.1)
  else if p.1 = 1 then decide (p.2.1 < P.2.1.length)
  else if p.1 = 6 then decide (p.2.1 < P.1.length) && decide (p.2.2 = (P.1.getD p.2.1.toNat (0, 0, [])).2.1)
  else if p.1 = 10 ∨ p.1 = 11 ∨ p.1 = 33 then decide (p.2.1 < f.2.2.length)
  else if p.1 = 36 then decide (p.2.1 ≠ 3) || decide (p.2.2 < P.2.2.length)
  else true
/-- The states of a function, none if it is not right. -/
def rightP (P : PPr) (f : PFn) : Option (List PSt) :=
  if allI (fun _ p => thereP P f p) 0 f.2.2 = true then (if (finP f.2.2).wr = true then none else some (finP f.2.2).st) else none
def statesP (P : PPr) (i : Int) : Option (List PSt) := if prG P = true ∧ 0 ≤ i ∧ i < P.1.length then rightP P (P.1.getD i.toNat (0, 0, [])) else none
def rightsP (P : PPr) : Bool := allI (fun _ f => (rightP P f).isSome) 0 P.1
end Go.Proofs.YtlfbfnkmbceejaaDoor
