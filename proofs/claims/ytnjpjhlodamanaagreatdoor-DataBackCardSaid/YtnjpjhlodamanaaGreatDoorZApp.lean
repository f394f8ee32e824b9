/-
  Programs as plain data; which may be; their bytes; the program of bytes (a plain reader).
  Conditions: as each states.
-/
import Derived.Test.YtnjpjhlodamanaaGreatDoorZOpA
import Derived.Test.YtnjpjhlodamanaaGreatDoorObjSet
import Derived.Test.YtnjpjhlodamanaaGreatDoorKeep
import Derived.Deep.Slices
import Derived.Deep.Fields
import Derived.ChangeSame
import Derived.Laws.StructEq
import Derived.RegionTactic
import Derived.BigRegion
import Derived.StillTailTactics
import Derived.Test.YtnjpjhlodamanaaGreatDoorHeld
import Derived.Deep.RegionHeld3
import Derived.Test.YtnjpjhlodamanaaGreatDoorObY
import Derived.Test.YtnjpjhlodamanaaGreatDoorMem
import Derived.Deep.RegionLaw
import Derived.Deep.AppendLies
namespace Go.Proofs.YtnjpjhlodamanaaGreatDoor
set_option linter.unusedVariables false
set_option linter.unusedSimpArgs false
open Go.ChangeShapes Go.WideShapes Go.ChangeAt Go.RowKit
set_option maxRecDepth 100000

/-- An instruction: op, A, B. A function: locals, captured, code. A form: kind, A, B, constructors. A program: functions, texts, forms. -/
abbrev PIns := Int × Int × Int
abbrev PFn := Int × Int × List PIns
abbrev PFm := Int × Int × Int × List Int
abbrev PPr := List PFn × List ByteArray × List PFm

/-! ## Each of a list, by its place -/
def allI {α : Type} (g : Nat → α → Bool) : Nat → List α → Bool
  | _, [] => true
  | k, x :: r => g k x && allI g (k + 1) r
theorem allI_iff {α : Type} (g : Nat → α → Bool) : ∀ (l : List α) (k : Nat), allI g k l = true ↔ ∀ j x, l[j]? = some x → g (k + j) x = true
  | [], k => by simp [allI]
  | x :: r, k => by
    unfold allI
    rw [Bool.and_eq_true, allI_iff g r (k + 1)]
    constructor
    · rintro ⟨h0, h⟩ j y hj
      cases j with
      | zero => simp at hj; subst hj; exact h0
      | succ j => have := h j y (by simpa using hj); rw [show k + (j + 1) = k + 1 + j by omega]; exact this
    · intro h
      refine ⟨h 0 x rfl, fun j y hj => ?_⟩
      have := h (j + 1) y (by simpa using hj)
      rw [show k + 1 + j = k + (j + 1) by omega]; exact this
theorem allI_true {α : Type} {g : Nat → α → Bool} {l : List α} (h : ∀ j x, j < l.length → l[j]? = some x → g j x = true) : allI g 0 l = true :=
  (allI_iff g l 0).2 fun j x hj => by rw [Nat.zero_add]; exact h j x (List.getElem?_eq_some_iff.1 hj).1 hj
theorem allI_false {α : Type} {g : Nat → α → Bool} {l : List α} {j : Nat} {x : α} (hj : l[j]? = some x) (h : g j x = false) : allI g 0 l = false := by
  cases e : allI g 0 l
  · rfl
  · have := (allI_iff g l 0).1 e j x hj
    rw [Nat.zero_add, h] at this
    cases this
theorem allI_at {α : Type} {g : Nat → α → Bool} {l : List α} (h : allI g 0 l = true) {j : Nat} {x : α} (hj : l[j]? = some x) : g j x = true := by
  have := (allI_iff g l 0).1 h j x hj
  rwa [Nat.zero_add] at this

/-! ## Which may be -/
def belowB (n m : Int) : Bool := decide (0 ≤ n ∧ n < m)
def insG (p : PIns) : Bool := opGood p.1 p.2.1 p.2.2
def fnG (f : PFn) : Bool := belowB f.1 61 && (belowB f.2.1 31 && (decide (0 < f.2.2.length ∧ f.2.2.length ≤ 600) && allI (fun _ p => insG p) 0 f.2.2))
def fnK (k : Nat) (f : PFn) : Bool := (if k = 0 then decide (f.2.1 = 0) else decide (f.1 ≠ 0)) && fnG f
def fnsG (l : List PFn) : Bool := decide (0 < l.length) && allI fnK 0 l
def strG (s : ByteArray) : Bool := decide (s.size ≤ 60)
def strsG (l : List ByteArray) : Bool := allI (fun _ s => strG s) 0 l
def conG (n : Nat) (c : Int) : Bool := decide (c = -1) || belowB c n
def consG (n : Nat) (l : List Int) : Bool := decide (0 < l.length ∧ l.length ≤ 20) && allI (fun _ c => conG n c) 0 l
def fmG (n : Nat) (m : PFm) : Bool :=
  if m.1 = 1 ∨ m.1 = 2 ∨ m.1 = 3 ∨ m.1 = 4 then belowB m.2.1 1 && (belowB m.2.2.1 1 && decide (m.2.2.2.length = 0))
  else if m.1 = 5 then belowB m.2.1 n && (belowB m.2.2.1 n && decide (m.2.2.2.length = 0))
  else if m.1 = 6 then belowB m.2.1 n && (belowB m.2.2.1 1 && decide (m.2.2.2.length = 0))
  else if m.1 = 7 then decide (m.2.1 = 0) && (decide (m.2.2.1 = 0) && consG n m.2.2.2)
  else false
def fmsG (l : List PFm) : Bool := allI (fun _ m => fmG l.length m) 0 l
def prG (P : PPr) : Bool := decide (P.1.length ≤ 60 ∧ P.2.1.length ≤ 40 ∧ P.2.2.length ≤ 40) && (fnsG P.1 && (strsG P.2.1 && fmsG P.2.2))

/-! ## Bytes -/
def aT : List Nat := [8, 2, 2, 2, 2, 0, 2, 0, 0, 0, 2, 2, 0, 0, 0, 0, 0, 0, 0, 2, 2, 8, 2, 0, 0, 0, 0, 0, 0, 0, 0, 0, 0, 2, 0, 0, 2, 0]
def bT : List Nat := [0, 0, 0, 0, 0, 0, 1, 0, 0, 0, 0, 0, 0, 0, 0, 0, 0, 0, 0, 1, 0, 0, 0, 0, 0, 0, 0, 0, 0, 0, 0, 0, 0, 0, 0, 0, 1, 0]
def aW (o : Int) : Nat := aT.getD o.toNat 0
def bW (o : Int) : Nat := bT.getD o.toNat 0

def byteC (n : Int) (i : Nat) : Int := (n / 256 ^ i) % 256
def bytesOf (n : Int) : Nat → List Int
  | 0 => []
  | w + 1 => byteC n w :: bytesOf n w
theorem bytesOf_length (n : Int) : ∀ w, (bytesOf n w).length = w
  | 0 => rfl
  | w + 1 => by simp [bytesOf, bytesOf_length n w]
theorem byteAt_bd (n : Int) (i : Nat) : 0 ≤ byteC n i ∧ byteC n i < 256 := by unfold byteC; omega
theorem bytesOf_bd (n : Int) : ∀ w, ∀ z ∈ bytesOf n w, 0 ≤ z ∧ z < 256
  | 0, z, hz => by cases hz
  | w + 1, z, hz => by
    rcases List.mem_cons.1 hz with rfl | hz
    · exact byteAt_bd n w
    · exact bytesOf_bd n w z hz

def encIns (p : PIns) : List Int := bytesOf p.1 1 ++ bytesOf p.2.1 (aW p.1) ++ bytesOf p.2.2 (bW p.1)
def encFn (f : PFn) : List Int := bytesOf f.1 1 ++ bytesOf f.2.1 1 ++ bytesOf f.2.2.length 2 ++ f.2.2.flatMap encIns
def strI (s : ByteArray) : List Int := s.data.toList.map fun c => (c.toNat : Int)
def encStr (s : ByteArray) : List Int := bytesOf s.size 1 ++ strI s
def encFm (m : PFm) : List Int := bytesOf m.1 1 ++ bytesOf m.2.1 1 ++ bytesOf m.2.2.1 1 ++ bytesOf m.2.2.2.length 1 ++ m.2.2.2.flatMap (bytesOf · 1)
def headI (P : PPr) : List Int := bytesOf P.1.length 1 ++ bytesOf P.2.1.length 1 ++ bytesOf P.2.2.length 1
def encPr (P : PPr) : List Int := headI P ++ P.1.flatMap encFn ++ P.2.1.flatMap encStr ++ P.2.2.flatMap encFm

/-! ## A plain reader: bytes that are left, and whether it is lost -/
abbrev Rd := List Int × Bool
def numOf (l : List Int) : Int := l.foldl (fun n b => IntKind.i64.wrap (n * 256 + b)) 0
def rdNum (w : Nat) (s : Rd) : Int × Rd := if w ≤ s.1.length then (numOf (s.1.take w), (s.1.drop w, s.2)) else (0, (s.1, true))
def rdCnt (w : Nat) (most : Int) (s : Rd) : Int × Rd := if most < (rdNum w s).1 then (0, ((rdNum w s).2.1, true)) else rdNum w s
def rdList {α : Type} (one : Rd → α × Rd) : Nat → Rd → List α × Rd
  | 0, s => ([], s)
  | n + 1, s => if s.2 = true then ([], s) else ((one s).1 :: (rdList one n (one s).2).1, (rdList one n (one s).2).2)
def rdIns (s : Rd) : PIns × Rd :=
  if 38 ≤ (rdNum 1 s).1 then ((0, 0, 0), ((rdNum 1 s).2.1, true))
  else (((rdNum 1 s).1, (rdNum (aW (rdNum 1 s).1) (rdNum 1 s).2).1, (rdNum (bW (rdNum 1 s).1) (rdNum (aW (rdNum 1 s).1) (rdNum 1 s).2).2).1), (rdNum (bW (rdNum 1 s).1) (rdNum (aW (rdNum 1 s).1) (rdNum 1 s).2).2).2)
def rdFn (s : Rd) : PFn × Rd :=
  let a := rdNum 1 s
  let b := rdNum 1 a.2
  let n := rdCnt 2 600 b.2
  let l := rdList rdIns n.1.toNat n.2
  ((a.1, b.1, l.1), l.2)
def byI (l : List Int) : ByteArray := ⟨⟨l.map fun z => UInt8.ofNat z.toNat⟩⟩
def rdTake (n : Nat) (s : Rd) : List Int × Rd := if n ≤ s.1.length then (s.1.take n, (s.1.drop n, s.2)) else ([], (s.1, true))
def rdStr (s : Rd) : ByteArray × Rd :=
  let n := rdNum 1 s
  let l := rdTake n.1.toNat n.2
  (byI l.1, l.2)
def rdCon (s : Rd) : Int × Rd := (if (rdNum 1 s).1 = 255 then -1 else (rdNum 1 s).1, (rdNum 1 s).2)
def rdFm (s : Rd) : PFm × Rd :=
  let k := rdNum 1 s
  let a := rdNum 1 k.2
  let b := rdNum 1 a.2
  let n := rdCnt 1 20 b.2
  let l := rdList rdCon n.1.toNat n.2
  ((k.1, a.1, b.1, l.1), l.2)
def rdPr (s : Rd) : PPr × Rd :=
  let nf := rdCnt 1 60 s
  let ns := rdCnt 1 40 nf.2
  let nm := rdCnt 1 40 ns.2
  let fs := rdList rdFn nf.1.toNat nm.2
  let ss := rdList rdStr ns.1.toNat fs.2
  let ms := rdList rdFm nm.1.toNat ss.2
  ((fs.1, ss.1, ms.1), ms.2)
/-- Whether there is a program, and which. -/
def decB (l : List Int) : Bool := !(rdPr (l, false)).2.2 && (decide ((rdPr (l, false)).2.1 = []) && prG (rdPr (l, false)).1)
def decPr (l : List Int) : PPr := if decB l = true then (rdPr (l, false)).1 else ([], [], [])
end Go.Proofs.YtnjpjhlodamanaaGreatDoor

/-
  Messages as plain data: which may be, how many words they take, which forms they fit; what goes out of a row of objects, what comes into one.
  Conditions: as each states.
-/
namespace Go.Proofs.YtnjpjhlodamanaaGreatDoor
set_option linter.unusedVariables false
set_option linter.unusedSimpArgs false
open Go.ChangeShapes Go.WideShapes Go.ChangeAt Go.RowKit
set_option maxRecDepth 100000

/-- A cell: kind, tag, number, text. -/
abbrev PCe := Int × Int × Int × ByteArray
def noText : ByteArray := ⟨#[]⟩
def numCe (n : Int) : PCe := (0, 0, n, noText)
def blkCe (t n : Int) : PCe := (1, t, n, noText)
def strCe (s : ByteArray) : PCe := (2, 0, 0, s)
def fit63 (n : Int) : Prop := -4611686018427387904 ≤ n ∧ n < 4611686018427387904
instance (n : Int) : Decidable (fit63 n) := by unfold fit63; infer_instance
def goodC (c : PCe) : Bool :=
  if c.1 = 0 then decide (c.2.1 = 0 ∧ c.2.2.2.size = 0 ∧ fit63 c.2.2.1)
  else if c.1 = 1 then decide (0 ≤ c.2.1 ∧ c.2.1 ≤ 255 ∧ 1 ≤ c.2.2.1 ∧ c.2.2.1 ≤ 8 ∧ c.2.2.2.size = 0)
  else if c.1 = 2 then decide (c.2.1 = 0 ∧ c.2.2.1 = 0 ∧ c.2.2.2.size ≤ 400)
  else false
def hasC (c : PCe) : Int := if c.1 = 1 then c.2.2.1 else 0
/-- Wholes that are still to begin, k of them: just those. -/
def whB : Int → List PCe → Bool
  | k, [] => decide (k = 0)
  | k, c :: r => decide (k ≠ 0) && (goodC c && whB (k + (hasC c - 1)) r)
def goodMs (m : List PCe) : Bool := decide (m.length ≤ 100) && whB 1 m

theorem hasC_nn {c : PCe} (h : goodC c = true) : 0 ≤ hasC c ∧ hasC c ≤ 8 := by
  unfold hasC
  by_cases h1 : c.1 = 1
  · rw [if_pos h1]
    unfold goodC at h
    rw [if_neg (by omega), if_pos h1] at h
    have := of_decide_eq_true h
    omega
  · rw [if_neg h1]; omega

theorem whB_cons {k : Int} {c : PCe} {r : List PCe} (h : whB k (c :: r) = true) : k ≠ 0 ∧ goodC c = true ∧ whB (k + (hasC c - 1)) r = true := by
  unfold whB at h
  simpa [Bool.and_eq_true] using h
theorem whB_mk {k : Int} {c : PCe} {r : List PCe} (h0 : k ≠ 0) (h1 : goodC c = true) (h2 : whB (k + (hasC c - 1)) r = true) : whB k (c :: r) = true := by
  unfold whB
  simp [h0, h1, h2]
/-- Wholes one behind the other. -/
theorem whB_app : ∀ (a : List PCe) (k j : Int) (r : List PCe), 0 ≤ j → 0 ≤ k → whB k a = true → whB (k + j) (a ++ r) = whB j r
  | [], k, j, r, _, _, h => by
    have : k = 0 := by simpa [whB] using h
    subst this
    simp
  | c :: a, k, j, r, hj, hk, h => by
    obtain ⟨h0, h1, h2⟩ := whB_cons h
    have hh := hasC_nn h1
    have ih := whB_app a (k + (hasC c - 1)) j r hj (by omega) h2
    rw [List.cons_append, whB, h1, Bool.true_and, show k + j + (hasC c - 1) = k + (hasC c - 1) + j by omega, ih]
    rw [show decide (k + j ≠ 0) = true from decide_eq_true (by omega), Bool.true_and]
/-- A part of wholes ends with some still to come. -/
theorem whB_cut : ∀ (a : List PCe) (k : Int) (r : List PCe), r ≠ [] → whB k (a ++ r) = true → whB k a = false
  | [], k, r, hr, h => by
    cases r with
    | nil => exact absurd rfl hr
    | cons c r =>
      have := (whB_cons h).1
      simp [whB, this]
  | c :: a, k, r, hr, h => by
    obtain ⟨h0, h1, h2⟩ := whB_cons h
    have ih := whB_cut a _ r hr h2
    rw [whB, h1, ih]
    simp
theorem whB_ne {k : Int} {m : List PCe} (hk : k ≠ 0) (h : whB k m = true) : m ≠ [] := by
  rintro rfl
  simp [whB, hk] at h
theorem whB_zero {m : List PCe} (h : m ≠ []) : whB 0 m = false := by
  cases m with
  | nil => exact absurd rfl h
  | cons c r => simp [whB]
theorem whB_all : ∀ (m : List PCe) (k : Int), whB k m = true → ∀ c ∈ m, goodC c = true
  | [], _, _, c, hc => by cases hc
  | d :: m, k, h, c, hc => by
    obtain ⟨_, h1, h2⟩ := whB_cons h
    rcases List.mem_cons.1 hc with rfl | hc
    · exact h1
    · exact whB_all m _ h2 c hc
theorem goodMs_iff {m : List PCe} : goodMs m = true ↔ m.length ≤ 100 ∧ whB 1 m = true := by
  unfold goodMs
  simp
theorem goodMs_ne {m : List PCe} (h : goodMs m = true) : m ≠ [] := whB_ne (by decide) (goodMs_iff.1 h).2

/-- Two messages in one Block. -/
theorem good_two {a b : List PCe} {t : Int} (ha : goodMs a = true) (hb : goodMs b = true) (ht : 0 ≤ t ∧ t ≤ 255) (hl : a.length + b.length < 100) :
    goodMs (blkCe t 2 :: (a ++ b)) = true := by
  rw [goodMs_iff] at *
  refine ⟨by simp; omega, whB_mk (by decide) ?_ ?_⟩
  · unfold goodC blkCe noText
    simp [ht]
    rfl
  · have h2 : (1 : Int) + (hasC (blkCe t 2) - 1) = 1 + 1 := by simp [hasC, blkCe]
    rw [h2, whB_app a 1 1 b (by decide) (by decide) ha.2]
    exact hb.2

/-! ## Words -/
def wordsC (c : PCe) : Nat := wordsR c.1 c.2.1 (hasC c).toNat c.2.2.2.size
def wordsM (m : List PCe) : Nat := (m.map wordsC).sum
theorem wordsM_cons (c : PCe) (m : List PCe) : wordsM (c :: m) = wordsC c + wordsM m := by simp [wordsM]
theorem wordsM_app (a b : List PCe) : wordsM (a ++ b) = wordsM a + wordsM b := by simp [wordsM]
def obC (c : PCe) : Ob := ⟨c.1, c.2.1, List.replicate (hasC c).toNat 1, c.2.2.2.data.toList⟩

theorem wordsC_num (t n : Int) (s : ByteArray) : wordsC (0, t, n, s) = 0 := by
  unfold wordsC wordsR
  rw [if_neg]
  intro h
  have := headR_kind h
  simp at this

/-! ## Out -/
/-- What a word is: its cell, the words of what it has. -/
def lookW (first : Int) (obs : List Ob) (x : Int) : Option (PCe × List Int) :=
  if wIs x then some (numCe (wVal x), [])
  else match refers first obs x with
    | none => none
    | some m => match objAt obs m with
      | none => none
      | some o => if o.kind = 1 then some (blkCe o.tag o.fs.length, o.fs) else if o.kind = 2 then some (strCe ⟨o.tx.toArray⟩, []) else none
def outL (first : Int) (obs : List Ob) : List Int → List PCe → Prop
  | ws, [] => ws = []
  | ws, c :: cs => ∃ x r fs, ws = x :: r ∧ lookW first obs x = some (c, fs) ∧ outL first obs (fs ++ r) cs
def outP (first : Int) (obs : List Ob) : Nat → List Int → Option (List PCe)
  | _, [] => some []
  | 0, _ :: _ => none
  | n + 1, x :: r => match lookW first obs x with
    | none => none
    | some (c, fs) => (outP first obs n (fs ++ r)).map (c :: ·)

section
variable {first : Int} {obs : List Ob}
theorem outP_iff : ∀ (n : Nat) (ws : List Int) (m : List PCe), outP first obs n ws = some m ↔ outL first obs ws m ∧ m.length ≤ n
  | n, [], m => by
    cases m with
    | nil => cases n <;> simp [outP, outL]
    | cons c cs => cases n <;> simp [outP, outL]
  | 0, x :: r, m => by
    cases m with
    | nil => simp [outP, outL]
    | cons c cs => simp [outP]
  | n + 1, x :: r, m => by
    unfold outP
    cases hl : lookW first obs x with
    | none =>
      cases m with
      | nil => simp [outL]
      | cons c cs =>
        simp only [outL, reduceCtorEq, false_iff]
        rintro ⟨⟨x', r', fs, e, h, _⟩, _⟩
        cases e
        rw [hl] at h
        cases h
    | some p =>
      obtain ⟨c, fs⟩ := p
      simp only [Option.map_eq_some_iff]
      constructor
      · rintro ⟨cs, h, rfl⟩
        obtain ⟨h1, h2⟩ := (outP_iff n _ _).1 h
        exact ⟨⟨x, r, fs, rfl, hl, h1⟩, by simp; omega⟩
      · rintro ⟨h, hn⟩
        cases m with
        | nil => simp [outL] at h
        | cons d cs =>
          obtain ⟨x', r', fs', e, h1, h2⟩ := h
          cases e
          rw [hl] at h1
          cases h1
          exact ⟨cs, (outP_iff n _ _).2 ⟨h2, by simp at hn; omega⟩, rfl⟩
theorem outP_len {n : Nat} {ws : List Int} {m : List PCe} (h : outP first obs n ws = some m) : ws.length ≤ n := by
  induction n generalizing ws m with
  | zero => cases ws with
    | nil => simp
    | cons x r => simp [outP] at h
  | succ n ih => cases ws with
    | nil => simp
    | cons x r =>
      unfold outP at h
      cases hl : lookW first obs x with
      | none => rw [hl] at h; cases h
      | some p =>
        rw [hl] at h
        simp only [Option.map_eq_some_iff] at h
        obtain ⟨cs, h, _⟩ := h
        have := ih h
        simp at this ⊢
        omega
theorem outL_app : ∀ (a b : List PCe) (u v : List Int), outL first obs u a → outL first obs v b → outL first obs (u ++ v) (a ++ b)
  | [], b, u, v, h, k => by
    have : u = [] := h
    subst this
    exact k
  | c :: a, b, u, v, h, k => by
    obtain ⟨x, r, fs, rfl, h1, h2⟩ := h
    refine ⟨x, r ++ v, fs, rfl, h1, ?_⟩
    have := outL_app a b (fs ++ r) v h2 k
    rwa [List.append_assoc] at this
theorem outL_split : ∀ (m : List PCe) (u v : List Int), outL first obs (u ++ v) m → ∃ a b, m = a ++ b ∧ outL first obs u a ∧ outL first obs v b
  | m, [], v, h => ⟨[], m, rfl, rfl, h⟩
  | [], x :: u, v, h => by cases h
  | c :: m, x :: u, v, h => by
    obtain ⟨y, r, fs, e, h1, h2⟩ := h
    cases e
    have h3 : outL first obs (fs ++ (u ++ v)) m := h2
    rw [← List.append_assoc] at h3
    obtain ⟨a, b, rfl, ha, hb⟩ := outL_split m (fs ++ u) v h3
    exact ⟨c :: a, b, rfl, ⟨x, u, fs, rfl, h1, ha⟩, hb⟩
theorem outL_det : ∀ (a b : List PCe) (ws : List Int), outL first obs ws a → outL first obs ws b → a = b
  | [], [], _, _, _ => rfl
  | [], c :: b, ws, h, k => by
    have : ws = [] := h
    subst this
    obtain ⟨x, r, fs, e, _⟩ := k
    cases e
  | c :: a, [], ws, h, k => by
    have : ws = [] := k
    subst this
    obtain ⟨x, r, fs, e, _⟩ := h
    cases e
  | c :: a, d :: b, ws, h, k => by
    obtain ⟨x, r, fs, rfl, h1, h2⟩ := h
    obtain ⟨x', r', fs', e, k1, k2⟩ := k
    cases e
    rw [h1] at k1
    cases k1
    rw [outL_det a b _ h2 k2]
theorem outL_nil {m : List PCe} (h : outL first obs [] m) : m = [] := outL_det m [] [] h rfl
/-- Objects that are laid behind change nothing of what there was. -/
theorem lookW_append (os : List Ob) {x : Int} {p : PCe × List Int} (h : lookW first obs x = some p) : lookW first (obs ++ os) x = some p := by
  unfold lookW at h ⊢
  split at h
  · rename_i hw; rw [if_pos hw]; exact h
  · rename_i hw
    rw [if_neg hw]
    cases hr : refers first obs x with
    | none => rw [hr] at h; cases h
    | some m =>
      rw [hr] at h
      rw [refers_append os hr]
      simp only at h ⊢
      cases ho : objAt obs m with
      | none => rw [ho] at h; cases h
      | some o => rw [ho] at h; rw [objAt_append os ho]; exact h
theorem outL_append (os : List Ob) : ∀ (m : List PCe) (ws : List Int), outL first obs ws m → outL first (obs ++ os) ws m
  | [], _, h => h
  | c :: m, ws, h => by
    obtain ⟨x, r, fs, rfl, h1, h2⟩ := h
    exact ⟨x, r, fs, rfl, lookW_append os h1, outL_append os m _ h2⟩
/-- A ring has no message. -/
theorem outL_ring {x : Int} {c : PCe} {u v : List Int} (h : lookW first obs x = some (c, u ++ x :: v)) : ∀ (n : Nat) (m : List PCe), m.length ≤ n → ¬ outL first obs [x] m := by
  intro n
  induction n with
  | zero =>
    intro m hm k
    have : m = [] := List.length_eq_zero_iff.1 (by omega)
    subst this
    cases k
  | succ n ih =>
    intro m hm k
    cases m with
    | nil => cases k
    | cons d m =>
      obtain ⟨y, r, fs, e, h1, h2⟩ := k
      cases e
      rw [h] at h1
      cases h1
      rw [List.append_nil, show u ++ x :: v = u ++ ([x] ++ v) by simp] at h2
      obtain ⟨a, b, rfl, _, hb⟩ := outL_split m u ([x] ++ v) h2
      obtain ⟨a', b', rfl, ha', _⟩ := outL_split b [x] v hb
      simp at hm
      exact ih a' (by omega) ha'
end

/-! ## In: what is laid so far, and the gaps that are still to be filled (an object's place, a field) -/
def Ext (G : List (Nat × Nat)) (obs obs' : List Ob) : Prop :=
  ∀ p o, objAt obs p = some o → ∃ o', objAt obs' p = some o' ∧ o'.kind = o.kind ∧ o'.tag = o.tag ∧ o'.tx = o.tx ∧ o'.fs.length = o.fs.length ∧ ∀ f, (p, f) ∉ G → o'.fs[f]? = o.fs[f]?
def Fill (obs : List Ob) : List (Nat × Nat) → List Int → Prop
  | [], ws => ws = []
  | g :: G, ws => ∃ x r, ws = x :: r ∧ (∃ o, objAt obs g.1 = some o ∧ o.fs[g.2]? = some x) ∧ Fill obs G r
structure InI (first : Int) (obs X : List Ob) (w0 : Int) (done : List PCe) (G : List (Nat × Nat)) : Prop where
  gap : ∀ g ∈ G, (flat obs).length ≤ g.1 ∧ ∃ o, objAt (obs ++ X) g.1 = some o ∧ o.kind = 1 ∧ g.2 < o.fs.length
  once : G.Nodup
  cont : ∀ obs' ws cs, Ext G (obs ++ X) obs' → Fill obs' G ws → outL first obs' ws cs → outL first obs' [w0] (done ++ cs)
  words : (flat X).length = wordsM done

/-- The gaps of an object that has been laid at p, with n fields. -/
def gapsOf (p n : Nat) : List (Nat × Nat) := (List.range n).map fun f => (p, f)
theorem gapsOf_mem {p n : Nat} {g : Nat × Nat} : g ∈ gapsOf p n ↔ g.1 = p ∧ g.2 < n := by
  unfold gapsOf
  simp only [List.mem_map, List.mem_range]
  constructor
  · rintro ⟨f, hf, rfl⟩; exact ⟨rfl, hf⟩
  · rintro ⟨h1, h2⟩; exact ⟨g.2, h2, by rw [← h1]⟩
theorem gapsOf_once (p n : Nat) : (gapsOf p n).Nodup := by
  unfold gapsOf
  exact List.Pairwise.map _ (fun a b hab e => hab (by cases e; rfl)) List.nodup_range
theorem Fill_app {obs : List Ob} : ∀ {G H : List (Nat × Nat)} {ws : List Int}, Fill obs (G ++ H) ws → ∃ u v, ws = u ++ v ∧ Fill obs G u ∧ Fill obs H v
  | [], H, ws, h => ⟨[], ws, rfl, rfl, h⟩
  | g :: G, H, ws, h => by
    obtain ⟨x, r, rfl, h1, h2⟩ := h
    obtain ⟨u, v, rfl, hu, hv⟩ := Fill_app h2
    exact ⟨x :: u, v, rfl, ⟨x, u, rfl, h1, hu⟩, hv⟩
theorem Fill_gapsAux {obs : List Ob} {p : Nat} {o : Ob} (ho : objAt obs p = some o) : ∀ (n k : Nat) (ws : List Int), k + n = o.fs.length → Fill obs ((List.range' k n).map fun f => (p, f)) ws → ws = o.fs.drop k
  | 0, k, ws, hk, h => by
    have : ws = [] := h
    rw [this, List.drop_of_length_le (by omega)]
  | n + 1, k, ws, hk, h => by
    rw [List.range'_succ, List.map_cons] at h
    obtain ⟨x, r, rfl, ⟨o', h1, h2⟩, h3⟩ := h
    rw [ho] at h1
    cases h1
    have ih := Fill_gapsAux ho n (k + 1) r (by omega) h3
    obtain ⟨hlt, e⟩ := List.getElem?_eq_some_iff.1 h2
    rw [List.drop_eq_getElem_cons hlt, ih]
    simp only at e
    rw [e]
theorem Fill_gaps {obs : List Ob} {p : Nat} {o : Ob} (ho : objAt obs p = some o) {ws : List Int} (h : Fill obs (gapsOf p o.fs.length) ws) : ws = o.fs := by
  have := Fill_gapsAux ho o.fs.length 0 ws (by omega) (by unfold gapsOf at h; rwa [List.range_eq_range'] at h)
  simpa using this
theorem Ext_objs {G : List (Nat × Nat)} {a b c : List Ob} (h1 : Ext G a b) (h2 : Ext G b c) : Ext G a c := by
  intro p o ho
  obtain ⟨o1, e1, k1, t1, x1, l1, f1⟩ := h1 p o ho
  obtain ⟨o2, e2, k2, t2, x2, l2, f2⟩ := h2 p o1 e1
  exact ⟨o2, e2, k2.trans k1, t2.trans t1, x2.trans x1, l2.trans l1, fun f hf => (f2 f hf).trans (f1 f hf)⟩
theorem Ext_mono {G H : List (Nat × Nat)} {a b : List Ob} (h : Ext G a b) (hs : ∀ p o, objAt a p = some o → ∀ f, (p, f) ∈ G → (p, f) ∈ H) : Ext H a b := by
  intro p o ho
  obtain ⟨o1, e1, k1, t1, x1, l1, f1⟩ := h p o ho
  exact ⟨o1, e1, k1, t1, x1, l1, fun f hf => f1 f fun hg => hf (hs p o ho f hg)⟩
theorem Ext_append (G : List (Nat × Nat)) (a os : List Ob) : Ext G a (a ++ os) := fun _ o ho => ⟨o, objAt_append os ho, rfl, rfl, rfl, rfl, fun _ _ => rfl⟩
theorem objAt_setAll_same {a : List Ob} {m i : Nat} {o : Ob} (v : Int) (h : objAt a m = some o) : objAt (setAll a m i v) m = some (o.setF i v) := by
  obtain ⟨b, c, rfl, hl⟩ := objAt_flat a m o h
  subst hl
  rw [setAll_split]
  exact objAt_here _ _ _
theorem flat_setF (b c : List Ob) (o : Ob) (i : Nat) (v : Int) : (flat (b ++ o.setF i v :: c)).length = (flat (b ++ o :: c)).length := by
  simp only [flat_append, flat_cons, List.length_append, Ob.lay_length, Ob.setF_words]
theorem objAt_setF_other : ∀ (b c : List Ob) (o : Ob) (i : Nat) (v : Int) (p : Nat), p ≠ (flat b).length → objAt (b ++ o.setF i v :: c) p = objAt (b ++ o :: c) p
  | [], c, o, i, v, p, h => by
    simp only [List.nil_append, objAt]
    have hp : p ≠ 0 := by simpa [flat] using h
    rw [if_neg hp, if_neg hp, Ob.setF_words]
  | d :: b, c, o, i, v, p, h => by
    simp only [List.cons_append, objAt]
    by_cases h0 : p = 0
    · rw [if_pos h0, if_pos h0]
    · rw [if_neg h0, if_neg h0]
      by_cases h1 : p < d.words
      · rw [if_pos h1, if_pos h1]
      · rw [if_neg h1, if_neg h1]
        refine objAt_setF_other b c o i v (p - d.words) ?_
        rw [flat_cons, List.length_append, d.lay_length] at h
        omega
theorem objAt_setAll_other {a : List Ob} {m i p : Nat} {o : Ob} (v : Int) (h : objAt a m = some o) (hp : p ≠ m) : objAt (setAll a m i v) p = objAt a p := by
  obtain ⟨b, c, rfl, hl⟩ := objAt_flat a m o h
  subst hl
  rw [setAll_split]
  exact objAt_setF_other b c o i v p hp
theorem Ext_set {a : List Ob} {m i : Nat} {o : Ob} (v : Int) (h : objAt a m = some o) {G : List (Nat × Nat)} (hg : (m, i) ∈ G) : Ext G a (setAll a m i v) := by
  intro p o' ho
  by_cases hp : p = m
  · subst hp
    rw [h] at ho
    cases ho
    refine ⟨o.setF i v, objAt_setAll_same v h, rfl, rfl, rfl, by simp [Ob.setF], fun f hf => ?_⟩
    have hne : i ≠ f := fun e => hf (e ▸ hg)
    simp [Ob.setF, hne]
  · exact ⟨o', by rw [objAt_setAll_other v h hp]; exact ho, rfl, rfl, rfl, rfl, fun _ _ => rfl⟩
theorem setAll_behind {a b : List Ob} {m i : Nat} {v : Int} {o : Ob} (h : objAt (a ++ b) m = some o) (hm : (flat a).length ≤ m) : ∃ b', setAll (a ++ b) m i v = a ++ b' ∧ (flat b').length = (flat b).length := by
  refine ⟨setAll b (m - (flat a).length) i v, ?_, ?_⟩
  · clear h
    induction a generalizing m with
    | nil => simp [flat]
    | cons d a ih =>
      rw [flat_cons, List.length_append, d.lay_length] at hm ⊢
      have hw := d.words_pos
      rw [List.cons_append, setAll, if_neg (by omega), ih (by omega)]
      rw [show m - d.words - (flat a).length = m - (d.words + (flat a).length) by omega]
      rfl
  · have h2 : objAt b (m - (flat a).length) = some o := by
      induction a generalizing m with
      | nil => simpa [flat] using h
      | cons d a ih =>
        rw [flat_cons, List.length_append, d.lay_length] at hm ⊢
        have hw := d.words_pos
        rw [List.cons_append, objAt, if_neg (by omega), if_neg (by omega)] at h
        rw [show m - (d.words + (flat a).length) = m - d.words - (flat a).length by omega]
        exact ih h (by omega)
    obtain ⟨c, d, rfl, hl⟩ := objAt_flat b _ o h2
    rw [← hl, setAll_split]
    exact flat_setF _ _ _ _ _

end Go.Proofs.YtnjpjhlodamanaaGreatDoor

/-
  A law's arguments that are slices: of integers ('open_slice_int'), of structs of integers ('open_slice_struct'), as values with their cells.
  Conditions: as each states.
-/
namespace Go.Proofs.YtnjpjhlodamanaaGreatDoor
set_option linter.unusedVariables false
set_option linter.unusedSimpArgs false
open Go.ChangeShapes Go.WideShapes Go.ChangeAt Go.RowKit Go.Deep

section
variable {H : Type} {enc : TypeId × Value → H} {P : Program} {w : World} {base : Nat} {spare : Nat → Bool} {held : Bool}

theorem add_of_cell {a : Addr} {j : Nat} {v : Value} (h0 : (w.cell? (a.add 0)).isSome = true) (h : w.cell? (a.add j) = some v) : w.cell? ⟨a.block, a.off + j, none⟩ = some v := by
  obtain ⟨b, o, s⟩ := a
  cases s with
  | some s =>
    exfalso
    simp only [Addr.add, if_true, World.cell?] at h0
    split at h0
    · simp at h0
    · simp at h0
  | none => rw [← h, Addr.add_lit]

theorem eta_of_cell {a : Addr} (h0 : (w.cell? (a.add 0)).isSome = true) : a = ⟨a.block, a.off, none⟩ := by
  obtain ⟨b, o, s⟩ := a
  cases s with
  | some s =>
    exfalso
    simp only [Addr.add, if_true, World.cell?] at h0
    split at h0
    · simp at h0
    · simp at h0
  | none => rfl

theorem open_slice_int {t e : TypeId} {k : IntKind} {v : Value} {d : DataW H} {ps : List MemPlace} {r : Reach} {b0 : Nat} (ht : P.underlying t = some (.slice e)) (he : P.underlying e = some (.int k)) (hc : P.cellsOf e = 1)
    (hval : Value.okWide P w r b0 t v) (h : DataW.Trod enc P w base spare held t v d ps) :
    ∃ zs : List Int, readsAt w v zs.length (zs.map (Value.int k)) ∧ (∀ z ∈ zs, (Lit.int k z).wf = true) ∧ zs.length ≤ maxLen := by
  obtain ⟨fuel, hf⟩ := h
  have hcs : v.cells.toList = [v] := by
    cases v with
    | agg cs =>
      exfalso
      unfold Value.okWide at hval
      rw [ht] at hval
      rcases open_ints ht he hc hf with ⟨h1, _⟩ | ⟨a, len, cap, zs, h1, _⟩
      all_goals
        simp only [Value.cells] at h1
        obtain ⟨cs⟩ := cs
        simp only at h1
        subst h1
        simp [Cell.okWide, ht, Cell.ok] at hval
    | _ => rfl
  rw [hcs] at hf
  rcases open_ints ht he hc hf with ⟨h1, _⟩ | ⟨a, len, cap, zs, h1, hb, hl, hm, hz, _, hcell, hwf⟩
  · obtain rfl : v = .slice none 0 0 := by simpa using h1
    exact ⟨[], ⟨_, _, rfl, .inl rfl⟩, by simp, Nat.zero_le _⟩
  · obtain rfl : v = .slice (some a) len cap := by simpa using h1
    have hlz : len ≤ zs.length := by rw [hz]; split <;> omega
    have hlen : (zs.take len).length = len := by simp; omega
    refine ⟨zs.take len, ⟨some a, cap, by rw [hlen], ?_⟩, fun z hz' => hwf z (List.mem_of_mem_take hz'), by rw [hlen]; omega⟩
    by_cases h0 : len = 0
    · exact .inl (by rw [hlen]; exact h0)
    · have hs : (w.cell? (a.add 0)).isSome = true := by rw [hcell 0 (by omega)]; rfl
      refine .inr ⟨a.block, a.off, congrArg some (eta_of_cell hs), fun j u hj => ?_⟩
      have hj2 : j < len := by
        have := (List.getElem?_eq_some_iff.1 hj).1
        simp at this
        omega
      have := add_of_cell hs (hcell j (by omega))
      rw [this, ← hj]
      simp [List.getElem?_take, hj2, List.getD_eq_getElem?_getD, List.getElem?_eq_getElem (show j < zs.length by omega)]
/-- v is a slice of n structs of integers: the field j of the i-th is 'f i j', of the kind 'ks[j]'. -/
def structsAt (w : World) (v : Value) (n : Nat) (ks : List IntKind) (f : Nat → Nat → Int) : Prop :=
  ∃ a c, v = .slice a n c ∧ (∀ i j k, i < n → ks[j]? = some k → (Lit.int k (f i j)).wf = true) ∧
    (n = 0 ∨ ∃ b o, a = some ⟨b, o, none⟩ ∧ ∀ i j k, i < n → ks[j]? = some k → w.cell? ⟨b, o + (i * ks.length + j), none⟩ = some (.int k (f i j)))

/-- The fields of a struct are integers of one cell, one behind the other, of these kinds. -/
def intFields (P : Program) (e : TypeId) (ks : List IntKind) : Bool := match P.underlying e with
  | some (.struct fs) => fs.size == ks.length && (List.range ks.length).all fun j => match fs[j]?, ks[j]? with
    | some f, some k => f.offset == j && P.cellsOf f.type == 1 && (match P.underlying f.type with | some (.int q) => decide (q = k) | _ => false)
    | _, _ => false
  | _ => false

theorem intFields_at {e : TypeId} {ks : List IntKind} (h : intFields P e ks = true) :
    ∃ fs, P.underlying e = some (.struct fs) ∧ fs.size = ks.length ∧ ∀ j k, ks[j]? = some k → ∃ f : Field, fs[j]? = some f ∧ f.offset = j ∧ P.cellsOf f.type = 1 ∧ P.underlying f.type = some (.int k) := by
  unfold intFields at h
  split at h
  · rename_i fs hu
    simp only [Bool.and_eq_true, beq_iff_eq, List.all_eq_true, List.mem_range] at h
    refine ⟨fs, hu, h.1, fun j k hk => ?_⟩
    have hj := (List.getElem?_eq_some_iff.1 hk).1
    have h2 := h.2 j hj
    rw [hk] at h2
    split at h2
    · rename_i f k' hf hk'
      cases hk'
      simp only [Bool.and_eq_true, beq_iff_eq] at h2
      refine ⟨f, hf, h2.1.1, h2.1.2, ?_⟩
      have h3 := h2.2
      split at h3
      · rename_i q hq
        rw [hq, of_decide_eq_true h3]
      · cases h3
    · cases h2
  · cases h

theorem open_slice_struct {t e : TypeId} (ks : List IntKind) {v : Value} {d : DataW H} {ps : List MemPlace} {r : Reach} {b0 : Nat} (ht : P.underlying t = some (.slice e)) (hks : intFields P e ks = true) (hC : P.cellsOf e = ks.length) (hpos : ∃ k, ks[0]? = some k)
    (hval : Value.okWide P w r b0 t v) (h : DataW.Trod enc P w base spare held t v d ps) :
    ∃ n f, structsAt w v n ks f ∧ n ≤ maxLen := by
  obtain ⟨fs, hu, hsz, hfs⟩ := intFields_at hks
  obtain ⟨fuel, hf⟩ := h
  have hcs : v.cells.toList = [v] := by
    cases v with
    | agg cs =>
      exfalso
      unfold Value.okWide at hval
      rw [ht] at hval
      rcases DataW.trod_slice ht hf with ⟨h1, _⟩ | ⟨a, len, cap, el, re, n, _, h1, _⟩
      all_goals
        simp only [Value.cells] at h1
        obtain ⟨cs⟩ := cs
        simp only at h1
        subst h1
        simp [Cell.okWide, ht, Cell.ok] at hval
    | _ => rfl
  rw [hcs] at hf
  rcases DataW.trod_slice ht hf with ⟨h1, _⟩ | ⟨a, len, cap, el, re, n, _, h1, _, hb, hl, hm, hlen, hel, _⟩
  · obtain rfl : v = .slice none 0 0 := by simpa using h1
    exact ⟨0, fun _ _ => 0, ⟨_, _, rfl, by intro i j k hi; omega, .inl rfl⟩, Nat.zero_le _⟩
  · obtain rfl : v = .slice (some a) len cap := by simpa using h1
    have each : ∀ i, i < len → ∃ g : Nat → Int, ∀ j k, ks[j]? = some k → w.cell? (a.add (i * ks.length + j)) = some (.int k (g j)) ∧ (Lit.int k (g j)).wf = true := by
      intro i hi
      have h2 := hel i hi
      rw [hC, List.getElem?_eq_getElem (by omega)] at h2
      cases hc : w.cells? base (a.add (i * ks.length)) ks.length with
      | none => rw [hc] at h2; simp at h2
      | some cs =>
        rw [hc] at h2
        simp only [Option.bind_some] at h2
        obtain ⟨_, hcl, hat⟩ := World.cells?_some hc
        obtain ⟨xs, n', _, _, _, hxl, hg⟩ := DataW.trod_struct hu h2
        refine ⟨fun j => intOf (cs.getD j (.bool false)), fun j k hk => ?_⟩
        have hj := (List.getElem?_eq_some_iff.1 hk).1
        obtain ⟨f, hfj, ho, h1c, hui⟩ := hfs j k hk
        have h3 := hg j f hfj
        have hdt : (cs.drop f.offset).take (P.cellsOf f.type) = [cs[j]'(by omega)] := by
          rw [ho, h1c, List.drop_eq_getElem_cons (by omega)]
          rfl
        rw [hdt, List.getElem?_eq_getElem (by omega)] at h3
        obtain ⟨z, hz, _, hw⟩ := DataW.trod_int hui h3
        have hz' : cs[j]'(by omega) = .int k z := by simpa using hz
        have hgd : intOf (cs.getD j (.bool false)) = z := by
          rw [List.getD_eq_getElem?_getD, List.getElem?_eq_getElem (by omega)]
          simp [hz', intOf]
        rw [← Go.Deep.add_add, hat j hj, List.getElem?_eq_getElem (by omega), hz']
        show some (Value.int k z) = some (Value.int k (intOf (cs.getD j (.bool false)))) ∧ (Lit.int k (intOf (cs.getD j (.bool false)))).wf = true
        rw [hgd]
        exact ⟨rfl, hw⟩
    let f : Nat → Nat → Int := fun i => if hi : i < len then Classical.choose (each i hi) else fun _ => 0
    have hff : ∀ i j k, i < len → ks[j]? = some k → w.cell? (a.add (i * ks.length + j)) = some (.int k (f i j)) ∧ (Lit.int k (f i j)).wf = true := by
      intro i j k hi hk
      have := Classical.choose_spec (each i hi) j k hk
      simp only [f, hi, dif_pos]
      exact this
    refine ⟨len, f, ⟨some a, cap, rfl, fun i j k hi hk => (hff i j k hi hk).2, ?_⟩, by omega⟩
    by_cases h0 : len = 0
    · exact .inl h0
    · obtain ⟨k0, hk0⟩ := hpos
      have hs : (w.cell? (a.add 0)).isSome = true := by
        have := (hff 0 0 k0 (by omega) hk0).1
        simp only [Nat.zero_mul, Nat.zero_add] at this
        rw [this]; rfl
      exact .inr ⟨a.block, a.off, congrArg some (eta_of_cell hs), fun i j k hi hk => add_of_cell hs (hff i j k hi hk).1⟩
end
end Go.Proofs.YtnjpjhlodamanaaGreatDoor

/-
  Programs in memory: slices that read as a list, in blocks outside of a set; functions, forms, programs; what stays of them.
  Conditions: as each states.
-/
namespace Go.Proofs.YtnjpjhlodamanaaGreatDoor
set_option linter.unusedVariables false
set_option linter.unusedSimpArgs false
open Go.ChangeShapes Go.WideShapes Go.ChangeAt Go.RowKit
set_option maxRecDepth 100000

/-- v is a slice of n elements whose cells read as cs, in a block that S has not. -/
def rdAt (S : Nat → Prop) (w : World) (v : Value) (n : Nat) (cs : List Value) : Prop :=
  ∃ a c, v = .slice a n c ∧ (n = 0 ∨ ∃ b o, a = some ⟨b, o, none⟩ ∧ ¬ S b ∧ b < w.heap.size ∧ ∀ j u, cs[j]? = some u → w.cell? ⟨b, o + j, none⟩ = some u)

theorem cell_upon {T : Nat → Prop} {w w' : World} (hu : Upon T w w') {b o : Nat} (hb : b < w.heap.size) (hT : ¬ T b) : w'.cell? ⟨b, o, none⟩ = w.cell? ⟨b, o, none⟩ := by
  simp only [World.cell?, hu.block b hb hT]

theorem rdAt.upon {S T : Nat → Prop} {w w' : World} {v : Value} {n : Nat} {cs : List Value} (h : rdAt S w v n cs) (hu : Upon T w w') (hT : ∀ k, k < w.heap.size → T k → S k) : rdAt S w' v n cs := by
  obtain ⟨a, c, rfl, h⟩ := h
  refine ⟨a, c, rfl, ?_⟩
  rcases h with h | ⟨b, o, rfl, hs, hb, hc⟩
  · exact .inl h
  · exact .inr ⟨b, o, rfl, hs, Nat.lt_of_lt_of_le hb hu.size, fun j u hj => by rw [cell_upon hu hb fun t => hs (hT b hb t)]; exact hc j u hj⟩
theorem rdAt.off {S T : Nat → Prop} {w : World} {v : Value} {n : Nat} {cs : List Value} (h : rdAt S w v n cs) (hT : ∀ k, k < w.heap.size → T k → S k) : rdAt T w v n cs := by
  obtain ⟨a, c, rfl, h⟩ := h
  refine ⟨a, c, rfl, ?_⟩
  rcases h with h | ⟨b, o, rfl, hs, hb, hc⟩
  · exact .inl h
  · exact .inr ⟨b, o, rfl, fun t => hs (hT b hb t), hb, hc⟩
theorem upon_of_below {w w' : World} (h : Below w.heap.size w w') : Upon (fun _ => False) w w' := Upon.of_below h
theorem rdAt.below {S : Nat → Prop} {w w' : World} {v : Value} {n : Nat} {cs : List Value} (h : rdAt S w v n cs) (hb : Below w.heap.size w w') : rdAt S w' v n cs := h.upon (upon_of_below hb) fun _ _ t => t.elim
theorem rdAt.of_reads {w : World} {v : Value} {n : Nat} {cs : List Value} (h : readsAt w v n cs) (hl : n = 0 ∨ 0 < cs.length) : rdAt (fun _ => False) w v n cs := by
  obtain ⟨a, c, rfl, h⟩ := h
  refine ⟨a, c, rfl, ?_⟩
  rcases h with h | ⟨b, o, rfl, hc⟩
  · exact .inl h
  · rcases hl with h0 | h0
    · exact .inl h0
    · exact .inr ⟨b, o, rfl, fun t => t, World.block_lt_of_cell? w ⟨b, o + 0, none⟩ (hc 0 cs[0] (List.getElem?_eq_getElem h0)), hc⟩
theorem rdAt.of_owns {S : Nat → Prop} {w : World} {B : Nat} {e : TypeId} {size : Nat} {v : Value} {n : Nat} {xs : List Value} (h : w.ownsRow B e size v n xs) (hS : ∀ g, v.ownBlock = some g → ¬ S g) : rdAt S w v n xs := by
  rcases owns_parts h with ⟨rfl, rfl, rfl⟩ | ⟨g, cap, rest, rfl, hg, hr, hl, hcap, hn, hm⟩
  · exact ⟨_, _, rfl, .inl rfl⟩
  · refine ⟨_, _, rfl, .inr ⟨g, 0, rfl, hS g rfl, hr.lt, fun j u hj => ?_⟩⟩
    rw [hr.cell, Nat.zero_add, List.getElem?_append_left (List.getElem?_eq_some_iff.1 hj).1]
    exact hj
theorem rdAt.slice {S : Nat → Prop} {w : World} {v : Value} {n : Nat} {cs : List Value} (h : rdAt S w v n cs) : ∃ a c, v = .slice a n c := by
  obtain ⟨a, c, rfl, _⟩ := h; exact ⟨a, c, rfl⟩

def insC (p : PIns) : List Value := [.int .i64 p.1, .int .i64 p.2.1, .int .i64 p.2.2]
def insL (l : List PIns) : List Value := l.flatMap insC
theorem insL_get : ∀ (xs : List PIns) (k : Nat) (p : PIns), xs[k]? = some p → (insL xs)[k * 3]? = some (.int .i64 p.1) ∧ (insL xs)[k * 3 + 1]? = some (.int .i64 p.2.1) ∧ (insL xs)[k * 3 + 2]? = some (.int .i64 p.2.2)
  | [], k, p, h => by simp at h
  | x :: xs, 0, p, h => by simp at h; subst h; simp [insL, insC]
  | x :: xs, k + 1, p, h => by
    have ih := insL_get xs k p (by simpa using h)
    rw [show (k + 1) * 3 = k * 3 + 1 + 1 + 1 by omega]
    simpa [insL, insC] using ih
theorem insL_length (l : List PIns) : (insL l).length = l.length * 3 := by
  induction l with
  | nil => rfl
  | cons x l ih => simp [insL, insC] at ih ⊢; omega
theorem insL_snoc (l : List PIns) (p : PIns) : insL (l ++ [p]) = insL l ++ insC p := by simp [insL]

/-- A function, a form at a place of memory. -/
def fnAt (S : Nat → Prop) (w : World) (b o : Nat) (f : PFn) : Prop :=
  w.cell? ⟨b, o, none⟩ = some (.int .i64 f.1) ∧ w.cell? ⟨b, o + 1, none⟩ = some (.int .i64 f.2.1) ∧ ∃ v, w.cell? ⟨b, o + 2, none⟩ = some v ∧ rdAt S w v f.2.2.length (insL f.2.2)
def fmAt (S : Nat → Prop) (w : World) (b o : Nat) (m : PFm) : Prop :=
  w.cell? ⟨b, o, none⟩ = some (.int .i64 m.1) ∧ w.cell? ⟨b, o + 1, none⟩ = some (.int .i64 m.2.1) ∧ w.cell? ⟨b, o + 2, none⟩ = some (.int .i64 m.2.2.1) ∧ ∃ v, w.cell? ⟨b, o + 3, none⟩ = some v ∧ rdAt S w v m.2.2.2.length (m.2.2.2.map (Value.int .i64))
/-- A slice of things of C cells each. -/
def manyAt {α : Type} (E : (Nat → Prop) → World → Nat → Nat → α → Prop) (C : Nat) (S : Nat → Prop) (w : World) (v : Value) (l : List α) : Prop :=
  ∃ a c, v = .slice a l.length c ∧ (l.length = 0 ∨ ∃ b o, a = some ⟨b, o, none⟩ ∧ ¬ S b ∧ b < w.heap.size ∧ ∀ i x, l[i]? = some x → E S w b (o + i * C) x)
abbrev fnsAt := manyAt fnAt 3
abbrev fmsAt := manyAt fmAt 4
abbrev strL (l : List ByteArray) : List Value := l.map Value.string
def prAt (S : Nat → Prop) (w : World) (v1 v2 v3 : Value) (P : PPr) : Prop := fnsAt S w v1 P.1 ∧ rdAt S w v2 P.2.1.length (strL P.2.1) ∧ fmsAt S w v3 P.2.2

theorem fnAt.upon {S T : Nat → Prop} {w w' : World} {b o : Nat} {f : PFn} (h : fnAt S w b o f) (hu : Upon T w w') (hT : ∀ k, k < w.heap.size → T k → S k) (hb : b < w.heap.size) (hS : ¬ T b) : fnAt S w' b o f := by
  obtain ⟨h0, h1, v, h2, h3⟩ := h
  exact ⟨by rw [cell_upon hu hb hS]; exact h0, by rw [cell_upon hu hb hS]; exact h1, v, by rw [cell_upon hu hb hS]; exact h2, h3.upon hu hT⟩
theorem fmAt.upon {S T : Nat → Prop} {w w' : World} {b o : Nat} {f : PFm} (h : fmAt S w b o f) (hu : Upon T w w') (hT : ∀ k, k < w.heap.size → T k → S k) (hb : b < w.heap.size) (hS : ¬ T b) : fmAt S w' b o f := by
  obtain ⟨h0, h1, h2, v, h3, h4⟩ := h
  exact ⟨by rw [cell_upon hu hb hS]; exact h0, by rw [cell_upon hu hb hS]; exact h1, by rw [cell_upon hu hb hS]; exact h2, v, by rw [cell_upon hu hb hS]; exact h3, h4.upon hu hT⟩
theorem manyAt.upon {α : Type} {E : (Nat → Prop) → World → Nat → Nat → α → Prop} {C : Nat} {S T : Nat → Prop} {w w' : World} {v : Value} {l : List α} (h : manyAt E C S w v l)
    (hE : ∀ b o x, b < w.heap.size → ¬ T b → E S w b o x → E S w' b o x) (hu : Upon T w w') (hT : ∀ k, k < w.heap.size → T k → S k) : manyAt E C S w' v l := by
  obtain ⟨a, c, rfl, h⟩ := h
  refine ⟨a, c, rfl, ?_⟩
  rcases h with h | ⟨b, o, rfl, hs, hb, hc⟩
  · exact .inl h
  · exact .inr ⟨b, o, rfl, hs, Nat.lt_of_lt_of_le hb hu.size, fun i x hx => hE _ _ _ hb (fun t => hs (hT b hb t)) (hc i x hx)⟩
theorem fns_upon {S T : Nat → Prop} {w w' : World} {v : Value} {l : List PFn} (h : fnsAt S w v l) (hu : Upon T w w') (hT : ∀ k, k < w.heap.size → T k → S k) : fnsAt S w' v l :=
  manyAt.upon h (fun _ _ _ hb hS h => h.upon hu hT hb hS) hu hT
theorem fms_upon {S T : Nat → Prop} {w w' : World} {v : Value} {l : List PFm} (h : fmsAt S w v l) (hu : Upon T w w') (hT : ∀ k, k < w.heap.size → T k → S k) : fmsAt S w' v l :=
  manyAt.upon h (fun _ _ _ hb hS h => h.upon hu hT hb hS) hu hT
theorem prAt.upon {S T : Nat → Prop} {w w' : World} {v1 v2 v3 : Value} {P : PPr} (h : prAt S w v1 v2 v3 P) (hu : Upon T w w') (hT : ∀ k, k < w.heap.size → T k → S k) : prAt S w' v1 v2 v3 P :=
  ⟨fns_upon h.1 hu hT, h.2.1.upon hu hT, fms_upon h.2.2 hu hT⟩
theorem prAt.below {S : Nat → Prop} {w w' : World} {v1 v2 v3 : Value} {P : PPr} (h : prAt S w v1 v2 v3 P) (hb : Below w.heap.size w w') : prAt S w' v1 v2 v3 P := h.upon (upon_of_below hb) fun _ _ t => t.elim
theorem fns_below {S : Nat → Prop} {w w' : World} {v : Value} {l : List PFn} (h : fnsAt S w v l) (hb : Below w.heap.size w w') : fnsAt S w' v l := fns_upon h (upon_of_below hb) fun _ _ t => t.elim
theorem fms_below {S : Nat → Prop} {w w' : World} {v : Value} {l : List PFm} (h : fmsAt S w v l) (hb : Below w.heap.size w w') : fmsAt S w' v l := fms_upon h (upon_of_below hb) fun _ _ t => t.elim
theorem manyAt.slice {α : Type} {E : (Nat → Prop) → World → Nat → Nat → α → Prop} {C : Nat} {S : Nat → Prop} {w : World} {v : Value} {l : List α} (h : manyAt E C S w v l) : ∃ a c, v = .slice a l.length c := by
  obtain ⟨a, c, rfl, _⟩ := h; exact ⟨a, c, rfl⟩

theorem manyAt.off {α : Type} {E : (Nat → Prop) → World → Nat → Nat → α → Prop} {C : Nat} {S T : Nat → Prop} {w : World} {v : Value} {l : List α} (h : manyAt E C S w v l)
    (hE : ∀ b o x, E S w b o x → E T w b o x) (hT : ∀ k, k < w.heap.size → T k → S k) : manyAt E C T w v l := by
  obtain ⟨a, c, rfl, h⟩ := h
  refine ⟨a, c, rfl, ?_⟩
  rcases h with h | ⟨b, o, rfl, hs, hb, hc⟩
  · exact .inl h
  · exact .inr ⟨b, o, rfl, fun t => hs (hT b hb t), hb, fun i x hx => hE _ _ _ (hc i x hx)⟩
theorem prAt.off {S T : Nat → Prop} {w : World} {v1 v2 v3 : Value} {P : PPr} (h : prAt S w v1 v2 v3 P) (hT : ∀ k, k < w.heap.size → T k → S k) : prAt T w v1 v2 v3 P :=
  ⟨h.1.off (fun _ _ _ ⟨a, b, v, c, d⟩ => ⟨a, b, v, c, d.off hT⟩) hT, h.2.1.off hT, h.2.2.off (fun _ _ _ ⟨a, b, c, v, d, e⟩ => ⟨a, b, c, v, d, e.off hT⟩) hT⟩

/-- The numbers fit, the lists are no longer than memory. -/
def insF (p : PIns) : Prop := (Lit.int .i64 p.1).wf = true ∧ (Lit.int .i64 p.2.1).wf = true ∧ (Lit.int .i64 p.2.2).wf = true
def fnF (f : PFn) : Prop := (Lit.int .i64 f.1).wf = true ∧ (Lit.int .i64 f.2.1).wf = true ∧ (∀ p ∈ f.2.2, insF p) ∧ f.2.2.length ≤ maxLen
def fmF (m : PFm) : Prop := (Lit.int .i64 m.1).wf = true ∧ (Lit.int .i64 m.2.1).wf = true ∧ (Lit.int .i64 m.2.2.1).wf = true ∧ (∀ c ∈ m.2.2.2, (Lit.int .i64 c).wf = true) ∧ m.2.2.2.length ≤ maxLen
structure prF (P : PPr) : Prop where
  fn : ∀ f ∈ P.1, fnF f
  fm : ∀ m ∈ P.2.2, fmF m
  st : ∀ s ∈ P.2.1, s.size ≤ maxLen
  n1 : P.1.length ≤ maxLen
  n2 : P.2.1.length ≤ maxLen
  n3 : P.2.2.length ≤ maxLen
end Go.Proofs.YtnjpjhlodamanaaGreatDoor

/-
  Package data: cells in memory, the small functions over one cell.
  Conditions: as each states.
-/
namespace Go.Proofs.YtnjpjhlodamanaaGreatDoor
set_option linter.unusedVariables false
set_option linter.unusedSimpArgs false
open Go.ChangeShapes Go.WideShapes Go.ChangeAt Go.RowKit
set_option maxRecDepth 100000

def ceC (c : PCe) : List Value := [.int .i64 c.1, .int .i64 c.2.1, .int .i64 c.2.2.1, .string c.2.2.2]
def ceL (l : List PCe) : List Value := l.flatMap ceC
abbrev ceV (c : PCe) : Value := .agg #[.int .i64 c.1, .int .i64 c.2.1, .int .i64 c.2.2.1, .string c.2.2.2]
theorem ceL_length (l : List PCe) : (ceL l).length = l.length * 4 := by
  induction l with
  | nil => rfl
  | cons x l ih => simp [ceL, ceC] at ih ⊢; omega
theorem ceL_app (a b : List PCe) : ceL (a ++ b) = ceL a ++ ceL b := by simp [ceL]
theorem ceL_one {l : List PCe} : ∀ u ∈ ceL l, u.oneCell' = true := by
  intro u hu
  obtain ⟨s, _, hs⟩ := List.mem_flatMap.1 hu
  simp only [ceC, List.mem_cons, List.not_mem_nil, or_false] at hs
  rcases hs with rfl | rfl | rfl | rfl <;> rfl
theorem ceL_get : ∀ (xs : List PCe) (k : Nat) (c : PCe), xs[k]? = some c →
    (ceL xs)[k * 4]? = some (.int .i64 c.1) ∧ (ceL xs)[k * 4 + 1]? = some (.int .i64 c.2.1) ∧ (ceL xs)[k * 4 + 2]? = some (.int .i64 c.2.2.1) ∧ (ceL xs)[k * 4 + 3]? = some (.string c.2.2.2)
  | [], k, c, h => by simp at h
  | x :: xs, 0, c, h => by simp at h; subst h; simp [ceL, ceC]
  | x :: xs, k + 1, c, h => by
    have ih := ceL_get xs k c (by simpa using h)
    rw [show (k + 1) * 4 = k * 4 + 1 + 1 + 1 + 1 by omega]
    simpa [ceL, ceC] using ih

/-- Two cells are one. -/
theorem run_ce_eq (w : World) (x1 x2 x3 y1 y2 y3 : Int) (s t : ByteArray) :
    (Op.equalIn 10000 51 (.agg #[.int .i64 x1, .int .i64 x2, .int .i64 x3, .string s]) (.agg #[.int .i64 y1, .int .i64 y2, .int .i64 y3, .string t])).run Tryz.prog w = .ok ((x1 == y1) && ((x2 == y2) && ((x3 == y3) && (s.toList == t.toList)))) w := by
  have hu := Tryz.underlying51
  have he : Tryz.prog.underlying 3 = some (.int .i64) := by kernel_rfl
  have he6 : Tryz.prog.underlying 2 = some (.int .i64) := by kernel_rfl
  have hes : Tryz.prog.underlying 9 = some .string := by kernel_rfl
  have hf : ∃ f0 f1 f2 f3 : Field, (Tryz.prog.fieldsOf 51).toList = [f0, f1, f2, f3] ∧ f0.name ≠ "_" ∧ f1.name ≠ "_" ∧ f2.name ≠ "_" ∧ f3.name ≠ "_" ∧ f0.type = 3 ∧ f1.type = 3 ∧ f2.type = 2 ∧ f3.type = 9 ∧ f0.offset = 0 ∧ f1.offset = 1 ∧ f2.offset = 2 ∧ f3.offset = 3 := by
    refine ⟨_, _, _, _, (by unfold Program.fieldsOf; rw [hu]), by decide, by decide, by decide, by decide, rfl, rfl, rfl, rfl, rfl, rfl, rfl, rfl⟩
  obtain ⟨f0, f1, f2, f3, hl, n0, n1, n2, n3, t0, t1, t2, t3, o0, o1, o2, o3⟩ := hf
  have p1 : ∀ w, (part 3 #[.int .i64 x1, .int .i64 x2, .int .i64 x3, .string s] 0).run Tryz.prog w = .ok (.int .i64 x1) w := fun w => by kernel_rfl
  have p2 : ∀ w, (part 3 #[.int .i64 x1, .int .i64 x2, .int .i64 x3, .string s] 1).run Tryz.prog w = .ok (.int .i64 x2) w := fun w => by kernel_rfl
  have p3 : ∀ w, (part 2 #[.int .i64 x1, .int .i64 x2, .int .i64 x3, .string s] 2).run Tryz.prog w = .ok (.int .i64 x3) w := fun w => by kernel_rfl
  have p4 : ∀ w, (part 9 #[.int .i64 x1, .int .i64 x2, .int .i64 x3, .string s] 3).run Tryz.prog w = .ok (.string s) w := fun w => by kernel_rfl
  have q1 : ∀ w, (part 3 #[.int .i64 y1, .int .i64 y2, .int .i64 y3, .string t] 0).run Tryz.prog w = .ok (.int .i64 y1) w := fun w => by kernel_rfl
  have q2 : ∀ w, (part 3 #[.int .i64 y1, .int .i64 y2, .int .i64 y3, .string t] 1).run Tryz.prog w = .ok (.int .i64 y2) w := fun w => by kernel_rfl
  have q3 : ∀ w, (part 2 #[.int .i64 y1, .int .i64 y2, .int .i64 y3, .string t] 2).run Tryz.prog w = .ok (.int .i64 y3) w := fun w => by kernel_rfl
  have q4 : ∀ w, (part 9 #[.int .i64 y1, .int .i64 y2, .int .i64 y3, .string t] 3).run Tryz.prog w = .ok (.string t) w := fun w => by kernel_rfl
  rw [run_equalIn_struct w 9999 51 _ _ (by rw [hu]; unfold Program.fieldsOf; rw [hu]) (by kernel_rfl), hl]
  simp only [Op.eqFields, n0, n1, n2, n3, t0, t1, t2, t3, o0, o1, o2, o3, ne_eq, not_false_eq_true, if_true, Sem.run_bind, p1, p2, p3, p4, q1, q2, q3, q4, Result.andThen_ok, run_equalIn_int _ 9998 _ _ _ _ _ he, run_equalIn_int _ 9998 _ _ _ _ _ he6, run_equalIn_string _ 9998 _ _ _ hes]
  cases h1 : x1 == y1 <;> cases h2 : x2 == y2 <;> cases h3 : x3 == y3 <;> cases h4 : s.toList == t.toList <;> simp [p2, p3, p4, q2, q3, q4, run_equalIn_int _ 9998 _ _ _ _ _ he, run_equalIn_int _ 9998 _ _ _ _ _ he6, run_equalIn_string _ 9998 _ _ _ hes, h2, h3, h4, Sem.run_pure]
def ceEq (c d : PCe) : Bool := (c.1 == d.1) && ((c.2.1 == d.2.1) && ((c.2.2.1 == d.2.2.1) && (c.2.2.2.toList == d.2.2.2.toList)))
theorem toList_inj {s t : ByteArray} (h : s.toList = t.toList) : s = t := by
  have h1 : s.data.toList = t.data.toList := by rwa [ByteArray.toList_eq, ByteArray.toList_eq] at h
  obtain ⟨a⟩ := s
  obtain ⟨b⟩ := t
  have : a = b := Array.toList_inj.1 h1
  rw [this]
theorem ceEq_iff (c d : PCe) : ceEq c d = true ↔ c = d := by
  obtain ⟨k, t, n, s⟩ := c
  obtain ⟨k', t', n', s'⟩ := d
  unfold ceEq
  simp only [Bool.and_eq_true, beq_iff_eq, Prod.mk.injEq]
  constructor
  · rintro ⟨h1, h2, h3, h4⟩; exact ⟨h1, h2, h3, toList_inj h4⟩
  · rintro ⟨h1, h2, h3, h4⟩; exact ⟨h1, h2, h3, by rw [h4]⟩
theorem ceEq_same (c : PCe) : ceEq c c = true := (ceEq_iff c c).2 rfl
theorem ceEq_false {c d : PCe} (h : c ≠ d) : ceEq c d = false := Bool.eq_false_iff.2 fun e => h ((ceEq_iff c d).1 e)

theorem numberOf_any (n : Int) (w : World) :
    Calls Tryz.prog 61 #[.int .i64 n] w fun e w' => e = .returned (.agg #[.int .i64 0, .int .i64 0, .int .i64 n, .string ⟨#[]⟩]) ∧ Below w.heap.size w w' := by
  go_enter Tryz.func61, Tryz.ntmps61
  go_wp2_with fail
  refine bodyPost_ret (v := .agg #[.int .i64 0, .int .i64 0, .int .i64 n, .string ⟨#[]⟩]) (by simp [results, Tryz.results61, go_sem]) rfl ⟨rfl, ?_⟩
  repeat (first | exact Below.refl _ _ | refine down_alloc ?_ _ | refine bl_set ?_ (by simp) _)
theorem blockOf_any (t n : Int) (w : World) :
    Calls Tryz.prog 64 #[.int .i64 t, .int .i64 n] w fun e w' => e = .returned (.agg #[.int .i64 1, .int .i64 t, .int .i64 n, .string ⟨#[]⟩]) ∧ Below w.heap.size w w' := by
  go_enter Tryz.func64, Tryz.ntmps64
  go_wp2_with fail
  refine bodyPost_ret (v := .agg #[.int .i64 1, .int .i64 t, .int .i64 n, .string ⟨#[]⟩]) (by simp [results, Tryz.results64, go_sem]) rfl ⟨rfl, ?_⟩
  repeat (first | exact Below.refl _ _ | refine down_alloc ?_ _ | refine bl_set ?_ (by simp) _)
theorem strOf_any (s : ByteArray) (w : World) :
    Calls Tryz.prog 65 #[.string s] w fun e w' => e = .returned (.agg #[.int .i64 2, .int .i64 0, .int .i64 0, .string s]) ∧ Below w.heap.size w w' := by
  go_enter Tryz.func65, Tryz.ntmps65
  go_wp2_with fail
  refine bodyPost_ret (v := .agg #[.int .i64 2, .int .i64 0, .int .i64 0, .string s]) (by simp [results, Tryz.results65, go_sem]) rfl ⟨rfl, ?_⟩
  repeat (first | exact Below.refl _ _ | refine down_alloc ?_ _ | refine bl_set ?_ (by simp) _)

theorem dhas_any (k t n : Int) (s : ByteArray) (w : World) :
    Calls Tryz.prog 42 #[.agg #[.int .i64 k, .int .i64 t, .int .i64 n, .string s]] w fun e w' => e = .returned (.int .i64 (hasC (k, t, n, s))) ∧ Below w.heap.size w w' := by
  by_cases h1 : k = 1
  · subst h1
    go_enter Tryz.func42, Tryz.ntmps42
    go_wp2_with fail
    go_ret
    exact ⟨rfl, bl_alloc (Below.refl _ _) _⟩
  · have E := Lib.hid (show hasC (k, t, n, s) = 0 by unfold hasC; rw [if_neg h1])
    have h1b : (k == 1) = false := by rw [beq_eq_false_iff_ne]; exact h1
    clear h1
    go_enter Tryz.func42, Tryz.ntmps42
    go_wp2_with fail
    go_ret
    exact ⟨ret_int E.out.symm, bl_alloc (Below.refl _ _) _⟩
end Go.Proofs.YtnjpjhlodamanaaGreatDoor

/-
  slices.Reverse of words.
  Conditions: as each states.
-/
namespace Go.Proofs.YtnjpjhlodamanaaGreatDoor
set_option linter.unusedVariables false
set_option linter.unusedSimpArgs false
open Go.ChangeShapes Go.WideShapes Go.ChangeAt Go.RowKit
set_option maxRecDepth 100000

def revTo (xs : List Int) (i : Nat) : List Int := (List.range xs.length).map fun p => if p < i ∨ xs.length - i ≤ p then xs.getD (xs.length - 1 - p) 0 else xs.getD p 0
theorem revTo_length (xs : List Int) (i : Nat) : (revTo xs i).length = xs.length := by simp [revTo]
theorem revTo_zero (xs : List Int) : revTo xs 0 = xs := by
  apply List.ext_getElem (revTo_length _ _)
  intro p h1 h2
  simp only [revTo, List.getElem_map, List.getElem_range]
  rw [if_neg (by omega), List.getD_eq_getElem?_getD, List.getElem?_eq_getElem h2]
  rfl
theorem revTo_end (xs : List Int) (i : Nat) (h : xs.length ≤ 2 * i + 1) : revTo xs i = xs.reverse := by
  apply List.ext_getElem (by simp [revTo_length])
  intro p h1 h2
  rw [revTo_length] at h1
  simp only [revTo, List.getElem_map, List.getElem_range, List.getElem_reverse]
  by_cases hp : p < i ∨ xs.length - i ≤ p
  · rw [if_pos hp, List.getD_eq_getElem?_getD, List.getElem?_eq_getElem (by omega)]; rfl
  · rw [if_neg hp, List.getD_eq_getElem?_getD, List.getElem?_eq_getElem (by omega)]
    simp only [Option.getD_some]
    congr 1
    omega
theorem revTo_mid {xs : List Int} {i p : Nat} (h0 : i ≤ p) (h1 : p < xs.length - i) (h2 : p < xs.length) : (revTo xs i)[p]? = some xs[p] := by
  rw [List.getElem?_eq_getElem (by rw [revTo_length]; exact h2)]
  simp only [revTo, List.getElem_map, List.getElem_range]
  rw [if_neg (by omega), List.getD_eq_getElem?_getD, List.getElem?_eq_getElem h2]
  rfl
theorem revTo_step {xs : List Int} {i : Nat} (h : i + 1 + i < xs.length) : ((revTo xs i).set i (xs[xs.length - 1 - i]'(by omega))).set (xs.length - 1 - i) (xs[i]'(by omega)) = revTo xs (i + 1) := by
  apply List.ext_getElem (by simp [revTo_length])
  intro p h1 h2
  rw [revTo_length] at h2
  rw [List.getElem_set, List.getElem_set]
  simp only [revTo, List.getElem_map, List.getElem_range]
  by_cases c1 : xs.length - 1 - i = p
  · rw [if_pos c1, if_pos (by omega), List.getD_eq_getElem?_getD, List.getElem?_eq_getElem (by omega)]
    simp only [Option.getD_some]
    congr 1
    omega
  · rw [if_neg c1]
    by_cases c2 : i = p
    · rw [if_pos c2, if_pos (by omega), List.getD_eq_getElem?_getD, List.getElem?_eq_getElem (by omega)]
      simp only [Option.getD_some]
      congr 1
      omega
    · rw [if_neg c2]
      by_cases c3 : p < i ∨ xs.length - i ≤ p
      · rw [if_pos c3, if_pos (by omega)]
      · rw [if_neg c3, if_neg (by omega)]
theorem set_row {xs : List Int} (rest : List Value) {i : Nat} (h : i < xs.length) (x : Int) : (wordsL xs ++ rest).set i (.int .u64 x) = wordsL (xs.set i x) ++ rest := by
  rw [List.set_append_left _ _ (by simpa using h)]
  simp [wordsL, List.map_set]
def RevT (g : Nat) (xs : List Int) (rest : List Value) (w : World) (e : Ending) (w' : World) : Prop :=
  e = .returned (.tuple #[]) ∧ rowAt w' g 42 (wordsL xs.reverse ++ rest) ∧ Upon (fun q => q = g) w w'
def RevIn (g : Nat) (xs : List Int) (rest : List Value) (k : Nat) (w w' : World) : Prop := rowAt w' g 42 (wordsL (revTo xs k) ++ rest) ∧ Upon (fun q => q = g) w w'
theorem RevIn.step {g : Nat} {xs : List Int} {rest : List Value} {k : Nat} {w w' : World} (h : RevIn g xs rest k w w') (hk : k + 1 + k < xs.length) {W : World} {q : Nat}
    (hW : W = ((w'.drewN q).setCell ⟨g, k, none⟩ (.int .u64 (xs[xs.length - 1 - k]'(by omega)))).setCell ⟨g, xs.length - 1 - k, none⟩ (.int .u64 (xs[k]'(by omega))) ∨ W = ((w'.drewN q).setCell ⟨g, xs.length - 1 - k, none⟩ (.int .u64 (xs[k]'(by omega)))).setCell ⟨g, k, none⟩ (.int .u64 (xs[xs.length - 1 - k]'(by omega)))) :
    RevIn g xs rest (k + 1) w W := by
  have hl := revTo_length xs k
  have r0 : rowAt (w'.drewN q) g 42 (wordsL (revTo xs k) ++ rest) := h.1
  have u0 : Upon (fun q => q = g) w (w'.drewN q) := h.2.trans (Upon.drewN _ _ _) fun _ _ h => h
  refine ⟨?_, ?_⟩
  · rw [← revTo_step hk]
    rcases hW with rfl | rfl
    · have := (r0.set k (.int .u64 (xs[xs.length - 1 - k]'(by omega)))).set (xs.length - 1 - k) (.int .u64 (xs[k]'(by omega)))
      rwa [set_row rest (by omega), set_row rest (by simp; omega)] at this
    · have := (r0.set (xs.length - 1 - k) (.int .u64 (xs[k]'(by omega)))).set k (.int .u64 (xs[xs.length - 1 - k]'(by omega)))
      rw [set_row rest (by omega), set_row rest (by simp; omega)] at this
      rwa [List.set_comm _ _ (by omega)] at this
  · rcases hW with rfl | rfl
    · exact (u0.trans (Upon.setCell (S := fun q => q = g) _ _ rfl) fun _ _ h => h).trans (Upon.setCell (S := fun q => q = g) _ _ rfl) fun _ _ h => h
    · exact (u0.trans (Upon.setCell (S := fun q => q = g) _ _ rfl) fun _ _ h => h).trans (Upon.setCell (S := fun q => q = g) _ _ rfl) fun _ _ h => h
set_option maxHeartbeats 8000000 in
theorem reverse_any {w : World} {g cap : Nat} {xs : List Int} {rest : List Value} (h : rowAt w g 42 (wordsL xs ++ rest)) (hl : xs.length ≤ 1000) :
    Calls Tryz.prog 40 #[.slice (some ⟨g, 0, none⟩) xs.length cap] w (RevT g xs rest w) := by
  have HI : Hid (RevIn g xs rest 0 w w) := ⟨by rw [revTo_zero]; exact h, Upon.refl _ _⟩
  clear h
  go_enter Tryz.func40, Tryz.ntmps40
  go_wp2_with fail
  go_loopw [2, 3] (fun i j wr => ∃ k : Nat, i = .int .i64 k ∧ j = .int .i64 ((xs.length : Int) - 1 - k) ∧ 2 * k ≤ xs.length + 1 ∧ Hid (RevIn g xs rest k w wr)) (fun i _ _ => xs.length - (intOf i).toNat)
  case atStart => exact ⟨0, rfl, by go_num, by omega, HI⟩
  case round =>
    obtain ⟨k, rfl, rfl, hk, HR⟩ := hrel
    by_cases hlt : k + 1 + k < xs.length
    · have hltI : (k : Int) < (xs.length : Int) - 1 - k := by omega
      obtain ⟨m, hm⟩ : ∃ m : Nat, xs.length - 1 - k = m := ⟨_, rfl⟩
      have hmI : (xs.length : Int) - 1 - k = (m : Int) := by omega
      have hml : m < xs.length := by omega
      have hkl : k < xs.length := by omega
      have hkm : k < m := by omega
      have r0 := HR.out.1
      have c1 : wr.cell? ⟨g, k, none⟩ = some (.int .u64 xs[k]) := by
        rw [r0.cell, List.getElem?_append_left (by simp [revTo_length]; omega), List.getElem?_map, revTo_mid (Nat.le_refl _) (by omega) hkl]; rfl
      have c2 : wr.cell? ⟨g, m, none⟩ = some (.int .u64 xs[m]) := by
        rw [r0.cell, List.getElem?_append_left (by simp [revTo_length]; omega), List.getElem?_map, revTo_mid (by omega) (by omega) hml]; rfl
      have f1 := r0.free k
      have f2 := r0.free m
      have hgl := r0.lt
      have FIN := Lib.hid (fun (W : World) (q : Nat) hW => HR.out.step hlt (W := W) (q := q) hW)
      simp only [hm] at FIN
      rw [hmI] at hltI ⊢
      have X1 := Lib.hid hmI
      obtain ⟨xk, hxk⟩ : ∃ x, xs[k] = x := ⟨_, rfl⟩
      obtain ⟨xm, hxm⟩ : ∃ x, xs[m] = x := ⟨_, rfl⟩
      rw [hxk, hxm] at FIN
      rw [hxk] at c1
      rw [hxm] at c2
      clear hmI hm r0 hxk hxm
      go_wp2_with fail
      go_region
      all_goals
        go_wp2_with fail
        go_roundw
        case rel => exact ⟨k + 1, by go_num, by have := X1.out; go_num, by omega, Lib.hid (FIN.out _ 1 (by first | exact .inl rfl | exact .inr rfl))⟩
        case measure => simp [intOf]; omega
    · have hltI : ¬ (k : Int) < (xs.length : Int) - 1 - k := by omega
      have E := Lib.hid (revTo_end xs k (by omega))
      have hr := HR.out
      unfold RevIn at hr
      rw [E.out] at hr
      have HR2 := Lib.hid hr
      clear hr HR hlt
      go_wp2_with fail
      refine bodyPost_ret (v := .tuple #[]) (by simp [results, Tryz.results40, go_sem]) rfl ⟨rfl, HR2.out.1, HR2.out.2⟩
end Go.Proofs.YtnjpjhlodamanaaGreatDoor

/-
  Package data: whether a cell may be one of a message.
  Conditions: as each states.
-/
namespace Go.Proofs.YtnjpjhlodamanaaGreatDoor
set_option linter.unusedVariables false
set_option linter.unusedSimpArgs false
open Go.ChangeShapes Go.WideShapes Go.ChangeAt Go.RowKit
set_option maxRecDepth 100000

theorem wrap_fit (n : Int) : (n == wWrap n) = decide (fit63 n) := by
  unfold fit63
  by_cases h : -4611686018427387904 ≤ n ∧ n < 4611686018427387904
  · rw [decide_eq_true h, beq_iff_eq]; unfold wWrap wrap64; omega
  · rw [decide_eq_false h, beq_eq_false_iff_ne]; unfold wWrap wrap64; omega
theorem toList_none (s : ByteArray) : (s.toList == ByteArray.toList ⟨#[]⟩) = decide (s.size = 0) := by
  have e : ByteArray.toList ⟨#[]⟩ = [] := by decide +kernel
  rw [e, ByteArray.toList_eq]
  obtain ⟨⟨l⟩⟩ := s
  cases l with
  | nil => rfl
  | cons x l =>
    show (x :: l == []) = decide ((x :: l).length = 0)
    simp
theorem good_num (t n : Int) (s : ByteArray) : goodC (0, t, n, s) = ((0 == 0) && ((t == 0) && ((n == wWrap n) && (s.toList == ByteArray.toList ⟨#[]⟩)))) := by
  rw [wrap_fit, toList_none]
  unfold goodC
  rw [if_pos rfl]
  by_cases h1 : t = 0 <;> by_cases h2 : s.size = 0 <;> by_cases h3 : fit63 n <;> simp [h1, h2, h3]
theorem good_str (t n : Int) (s : ByteArray) : goodC (2, t, n, s) = (ceEq (2, t, n, s) (2, 0, 0, s) && decide ((s.size : Int) ≤ 400)) := by
  unfold goodC ceEq
  rw [if_neg (show ¬ (2 : Int) = 0 by decide), if_neg (show ¬ (2 : Int) = 1 by decide), if_pos rfl]
  by_cases h1 : t = 0 <;> by_cases h2 : n = 0 <;> by_cases h3 : s.size ≤ 400 <;> simp [h1, h2, h3]
  all_goals omega
set_option maxHeartbeats 16000000 in
theorem goodCell_num (t n : Int) (s : ByteArray) (w : World) :
    Calls Tryz.prog 41 #[.agg #[.int .i64 0, .int .i64 t, .int .i64 n, .string s]] w fun e w' => e = .returned (.bool (goodC (0, t, n, s))) ∧ Below w.heap.size w w' := by
  have E := Lib.hid (good_num t n s)
  obtain ⟨b, hb⟩ : ∃ b, goodC (0, t, n, s) = b := ⟨_, rfl⟩
  rw [hb] at E
  rw [hb]
  clear hb
  have q1 : ∀ w, (Op.equalIn 10000 51 (.agg #[.int .i64 0, .int .i64 t, .int .i64 n, .string s]) (.agg #[.int .i64 0, .int .i64 0, .int .i64 (wWrap n), .string ⟨#[]⟩])).run Tryz.prog w = .ok b w := fun w => by rw [run_ce_eq]; exact congrArg (Result.ok · w) E.out.symm
  go_enter Tryz.func41, Tryz.ntmps41
  go_wp2_with fail
  go_region_with (first
    | (go_at_call 66; refine (wrap_any _ _).mono ?_; rintro e w1 ⟨rfl, b1⟩; have z1 := b1.size; simp at z1; have hlt1 : w.heap.size < w1.heap.size := z1; obtain ⟨c1, f1⟩ := bcell b1; have B1 := Lib.hid (bl_call (bl_drew (bl_alloc (Below.refl _ _) _)) b1); clear b1 z1)
    | (go_at_call 61; refine (numberOf_any _ _).mono ?_; rintro e w2 ⟨rfl, b2⟩; have z2 := b2.size; obtain ⟨c2, f2⟩ := bcell b2; have B2 := Lib.hid (bl_call B1.out b2); clear b2 z2))
  all_goals
    go_wp2_with fail
    go_ret
    exact ⟨rfl, B2.out⟩


theorem text_emptyD (s : ByteArray) : s.toList.isEmpty = decide (s.size = 0) := by
  rw [ByteArray.toList_eq]
  obtain ⟨⟨l⟩⟩ := s
  cases l <;> simp [ByteArray.size]
theorem good_blk (t n : Int) (s : ByteArray) : goodC (1, t, n, s) = decide (0 ≤ t ∧ t ≤ 255 ∧ 1 ≤ n ∧ n ≤ 8 ∧ s.size = 0) := by
  unfold goodC
  rw [if_neg (show ¬ (1 : Int) = 0 by decide), if_pos rfl]
set_option maxHeartbeats 4000000 in
theorem goodCell_blk (t n : Int) (s : ByteArray) (w : World) :
    Calls Tryz.prog 41 #[.agg #[.int .i64 1, .int .i64 t, .int .i64 n, .string s]] w fun e w' => e = .returned (.bool (goodC (1, t, n, s))) ∧ Below w.heap.size w w' := by
  have b0 := Lib.hid (fun o => bl_alloc (Below.refl w.heap.size w) o)
  have HE := text_emptyD s
  have G := Lib.hid (good_blk t n s)
  obtain ⟨b, hb⟩ : ∃ b, goodC (1, t, n, s) = b := ⟨_, rfl⟩
  rw [hb] at G ⊢
  clear hb
  by_cases c1 : 0 ≤ t
  · by_cases c2 : t ≤ 255
    · by_cases c3 : 1 ≤ n
      · by_cases c4 : n ≤ 8
        · by_cases c5 : s.size = 0
          · have E := Lib.hid (show true = b by rw [G.out]; exact (decide_eq_true ⟨c1, c2, c3, c4, c5⟩).symm)
            rw [decide_eq_true c5] at HE
            clear c5
            go_enter Tryz.func41, Tryz.ntmps41
            go_wp2_with fail
            go_ret
            exact ⟨ret_bool E.out, b0.out _⟩
          · have E := Lib.hid (show false = b by rw [G.out]; exact (decide_eq_false fun h => c5 h.2.2.2.2).symm)
            rw [decide_eq_false c5] at HE
            clear c5
            go_enter Tryz.func41, Tryz.ntmps41
            go_wp2_with fail
            go_ret
            exact ⟨ret_bool E.out, b0.out _⟩
        · have E := Lib.hid (show false = b by rw [G.out]; exact (decide_eq_false fun h => c4 h.2.2.2.1).symm)
          clear HE
          go_enter Tryz.func41, Tryz.ntmps41
          go_wp2_with fail
          go_ret
          exact ⟨ret_bool E.out, b0.out _⟩
      · have E := Lib.hid (show false = b by rw [G.out]; exact (decide_eq_false fun h => c3 h.2.2.1).symm)
        clear HE
        go_enter Tryz.func41, Tryz.ntmps41
        go_wp2_with fail
        go_ret
        exact ⟨ret_bool E.out, b0.out _⟩
    · have E := Lib.hid (show false = b by rw [G.out]; exact (decide_eq_false fun h => c2 h.2.1).symm)
      clear HE
      go_enter Tryz.func41, Tryz.ntmps41
      go_wp2_with fail
      go_ret
      exact ⟨ret_bool E.out, b0.out _⟩
  · have E := Lib.hid (show false = b by rw [G.out]; exact (decide_eq_false fun h => c1 h.1).symm)
    clear HE
    go_enter Tryz.func41, Tryz.ntmps41
    go_wp2_with fail
    go_ret
    exact ⟨ret_bool E.out, b0.out _⟩
theorem goodCell_other (k t n : Int) (s : ByteArray) (h0 : k ≠ 0) (h1 : k ≠ 1) (h2 : k ≠ 2) (w : World) :
    Calls Tryz.prog 41 #[.agg #[.int .i64 k, .int .i64 t, .int .i64 n, .string s]] w fun e w' => e = .returned (.bool (goodC (k, t, n, s))) ∧ Below w.heap.size w w' := by
  have E := Lib.hid (show goodC (k, t, n, s) = false by unfold goodC; rw [if_neg h0, if_neg h1, if_neg h2])
  have b0 := Lib.hid (fun o => bl_alloc (Below.refl w.heap.size w) o)
  have e0 : (k == 0) = false := beq_eq_false_iff_ne.2 h0
  have e1 : (k == 1) = false := beq_eq_false_iff_ne.2 h1
  have e2 : (k == 2) = false := beq_eq_false_iff_ne.2 h2
  clear h0 h1 h2
  go_enter Tryz.func41, Tryz.ntmps41
  go_wp2_with fail
  go_ret
  exact ⟨ret_bool E.out.symm, b0.out _⟩
end Go.Proofs.YtnjpjhlodamanaaGreatDoor

/-
  Package data: whether a cell may be one of a message (texts; all).
  Conditions: as each states.
-/
namespace Go.Proofs.YtnjpjhlodamanaaGreatDoor
set_option linter.unusedVariables false
set_option linter.unusedSimpArgs false
open Go.ChangeShapes Go.WideShapes Go.ChangeAt Go.RowKit
set_option maxRecDepth 100000

theorem cells4 {w : World} {b : Nat} {T : TypeId} {a c d e : Value} (h : rowAt w b T [a, c, d, e]) : w.cell? ⟨b, 0, none⟩ = some a ∧ w.cell? ⟨b, 1, none⟩ = some c ∧ w.cell? ⟨b, 2, none⟩ = some d ∧ w.cell? ⟨b, 3, none⟩ = some e :=
  ⟨h.cell 0, h.cell 1, h.cell 2, h.cell 3⟩
set_option maxHeartbeats 16000000 in
theorem goodCell_str (t n : Int) (s : ByteArray) (w : World) :
    Calls Tryz.prog 41 #[.agg #[.int .i64 2, .int .i64 t, .int .i64 n, .string s]] w fun e w' => e = .returned (.bool (goodC (2, t, n, s))) ∧ Below w.heap.size w w' := by
  rw [good_str]
  cases hq : ceEq (2, t, n, s) (2, 0, 0, s)
  · have q1 : ∀ w, (Op.equalIn 10000 51 (.agg #[.int .i64 2, .int .i64 t, .int .i64 n, .string s]) (.agg #[.int .i64 2, .int .i64 0, .int .i64 0, .string s])).run Tryz.prog w = .ok false w := fun w => by rw [run_ce_eq]; exact congrArg (Result.ok · w) hq
    have QQ := Lib.hid hq
    clear hq
    go_enter Tryz.func41, Tryz.ntmps41
    go_wp2_with fail
    refine wp_region_held_drew (S := fun w' => w'.cell? ⟨w.heap.size, 0, none⟩ = some (.int .i64 2) ∧ w'.cell? ⟨w.heap.size, 1, none⟩ = some (.int .i64 t) ∧ w'.cell? ⟨w.heap.size, 2, none⟩ = some (.int .i64 n) ∧ w'.cell? ⟨w.heap.size, 3, none⟩ = some (.string s)) (by kernel_rfl) (cells4 (rowAt.made w 51 _)) (fun hH0 => ?_)
    refine wpAnyH_take (i := 0) (oi := _) (v := ?_) (by simp only [List.getElem?_toArray, List.getElem?_cons_succ, List.getElem?_cons_zero]; rfl) (by kernel_rfl) (by kernel_rfl) (by kernel_rfl) (by exact fun _ _ _ h => h) (Or.inl ⟨by rfl, ?_⟩) (by assumption) ?_
    rotate_left
    · (intro w hSw; (try dsimp only at hSw); go_simp; try with_reducible rfl)
    try simp only [Act.put, List.setIfInBounds_toArray, List.set_cons_zero, List.set_cons_succ]
    refine wpAnyH_take (i := 1) (oi := _) (v := ?_) (by simp only [List.getElem?_toArray, List.getElem?_cons_succ, List.getElem?_cons_zero]; rfl) (by kernel_rfl) (by kernel_rfl) (by kernel_rfl) (by exact fun _ _ _ h => h) (Or.inl ⟨by rfl, ?_⟩) (by assumption) ?_
    rotate_left
    · (intro w hSw; (try dsimp only at hSw); go_simp; try with_reducible rfl)
    try simp only [Act.put, List.setIfInBounds_toArray, List.set_cons_zero, List.set_cons_succ]
    refine wpAnyH_take (i := 2) (oi := _) (v := ?_) (by simp only [List.getElem?_toArray, List.getElem?_cons_succ, List.getElem?_cons_zero]; rfl) (by kernel_rfl) (by kernel_rfl) (by kernel_rfl) (by exact fun _ _ _ h => h) (Or.inl ⟨by rfl, ?_⟩) (by assumption) ?_
    rotate_left
    · (intro w hSw; (try dsimp only at hSw); go_simp; try with_reducible rfl)
    try simp only [Act.put, List.setIfInBounds_toArray, List.set_cons_zero, List.set_cons_succ]
    refine wpAnyH_ready (rs := [3]) (by kernel_rfl) (by simp) ?_
    refine AllReadyH.cons rfl (fun K hK => ?_) AllReadyH.nil
    go_simp
    refine (strOf_any s _).mono ?_
    rintro e w1 ⟨rfl, b1⟩
    have B1 := Lib.hid (bl_call (bl_drew (bl_alloc (Below.refl w.heap.size w) _)) b1)
    have R1 := Lib.hid ((rowAt.made w 51 [.int .i64 2, .int .i64 t, .int .i64 n, .string s]).drew.below b1 (by simp))
    clear b1
    go_wp2_with fail
    refine hK.out _ _ (cells4 R1.out) (fun hH1 => ?_)
    clear hK K hH0
    try simp only [Act.put, List.setIfInBounds_toArray, List.set_cons_zero, List.set_cons_succ]
    refine wpAnyH_take (i := 4) (oi := _) (v := ?_) (by simp only [List.getElem?_toArray, List.getElem?_cons_succ, List.getElem?_cons_zero]; rfl) (by kernel_rfl) (by kernel_rfl) (by kernel_rfl) (by exact fun _ _ _ h => h) (Or.inl ⟨by rfl, ?_⟩) (by assumption) ?_
    rotate_left
    · (intro w hSw; (try dsimp only at hSw); go_simp; try with_reducible rfl)
    try simp only [Act.put, List.setIfInBounds_toArray, List.set_cons_zero, List.set_cons_succ]
    refine wpAnyH_take (i := 5) (oi := _) (v := ?_) (by simp only [List.getElem?_toArray, List.getElem?_cons_succ, List.getElem?_cons_zero]; rfl) (by kernel_rfl) (by kernel_rfl) (by kernel_rfl) (by exact fun _ _ _ h => h) (Or.inl ⟨by rfl, ?_⟩) (by assumption) ?_
    rotate_left
    · (intro w hSw; (try dsimp only at hSw); go_simp; try with_reducible rfl)
    try simp only [Act.put, List.setIfInBounds_toArray, List.set_cons_zero, List.set_cons_succ]
    refine wpAnyH_take (i := 6) (oi := _) (v := undef) (by simp only [List.getElem?_toArray, List.getElem?_cons_succ, List.getElem?_cons_zero]; rfl) (by kernel_rfl) (by kernel_rfl) (by kernel_rfl) (by exact fun _ _ _ h => h) (Or.inr ⟨by rfl, rfl⟩) (by assumption) ?_
    try simp only [Act.put, List.setIfInBounds_toArray, List.set_cons_zero, List.set_cons_succ]
    refine wpAnyH_take (i := 7) (oi := _) (v := undef) (by simp only [List.getElem?_toArray, List.getElem?_cons_succ, List.getElem?_cons_zero]; rfl) (by kernel_rfl) (by kernel_rfl) (by kernel_rfl) (by exact fun _ _ _ h => h) (Or.inr ⟨by rfl, rfl⟩) (by assumption) ?_
    try simp only [Act.put, List.setIfInBounds_toArray, List.set_cons_zero, List.set_cons_succ]
    refine wpAnyH_take (i := 8) (oi := _) (v := undef) (by simp only [List.getElem?_toArray, List.getElem?_cons_succ, List.getElem?_cons_zero]; rfl) (by kernel_rfl) (by kernel_rfl) (by kernel_rfl) (by exact fun _ _ _ h => h) (Or.inr ⟨by rfl, rfl⟩) (by assumption) ?_
    try simp only [Act.put, List.setIfInBounds_toArray, List.set_cons_zero, List.set_cons_succ]
    refine wpAnyH_take (i := 9) (oi := _) (v := undef) (by simp only [List.getElem?_toArray, List.getElem?_cons_succ, List.getElem?_cons_zero]; rfl) (by kernel_rfl) (by kernel_rfl) (by kernel_rfl) (by exact fun _ _ _ h => h) (Or.inr ⟨by rfl, rfl⟩) (by assumption) ?_
    try simp only [Act.put, List.setIfInBounds_toArray, List.set_cons_zero, List.set_cons_succ]
    refine wpAnyH_take (i := 10) (oi := _) (v := ?_) (by simp only [List.getElem?_toArray, List.getElem?_cons_succ, List.getElem?_cons_zero]; rfl) (by kernel_rfl) (by kernel_rfl) (by kernel_rfl) (by exact fun _ _ _ h => h) (Or.inl ⟨by rfl, ?_⟩) (by assumption) ?_
    rotate_left
    · (intro w hSw; (try dsimp only at hSw); go_simp; try with_reducible rfl)
    try simp only [Act.put, List.setIfInBounds_toArray, List.set_cons_zero, List.set_cons_succ]
    refine wpAnyH_take (i := 11) (oi := _) (v := ?_) (by simp only [List.getElem?_toArray, List.getElem?_cons_succ, List.getElem?_cons_zero]; rfl) (by kernel_rfl) (by kernel_rfl) (by kernel_rfl) (by exact fun _ _ _ h => h) (Or.inl ⟨by rfl, ?_⟩) (by assumption) ?_
    rotate_left
    · (intro w hSw; (try dsimp only at hSw); go_simp; try with_reducible rfl)
    try simp only [Act.put, List.setIfInBounds_toArray, List.set_cons_zero, List.set_cons_succ]
    refine wpAnyH_done (by kernel_rfl) ?_ _
    go_wp2_with fail
    go_ret
    exact ⟨rfl, B1.out⟩
  · have q1 : ∀ w, (Op.equalIn 10000 51 (.agg #[.int .i64 2, .int .i64 t, .int .i64 n, .string s]) (.agg #[.int .i64 2, .int .i64 0, .int .i64 0, .string s])).run Tryz.prog w = .ok true w := fun w => by rw [run_ce_eq]; exact congrArg (Result.ok · w) hq
    have QQ := Lib.hid hq
    clear hq
    go_enter Tryz.func41, Tryz.ntmps41
    go_wp2_with fail
    go_region_with (go_at_call 65; refine (strOf_any _ _).mono ?_; rintro e w1 ⟨rfl, b1⟩; have z1 := b1.size; simp at z1; have hlt1 : w.heap.size < w1.heap.size := z1; obtain ⟨c1, f1⟩ := bcell b1; have B1 := Lib.hid (bl_call (bl_drew (bl_alloc (Below.refl _ _) _)) b1); clear b1 z1)
    all_goals
      go_wp2_with fail
      go_ret
      exact ⟨rfl, B1.out⟩
theorem goodCell_any (k t n : Int) (s : ByteArray) (w : World) :
    Calls Tryz.prog 41 #[.agg #[.int .i64 k, .int .i64 t, .int .i64 n, .string s]] w fun e w' => e = .returned (.bool (goodC (k, t, n, s))) ∧ Below w.heap.size w w' := by
  by_cases h0 : k = 0
  · subst h0; exact goodCell_num t n s w
  · by_cases h1 : k = 1
    · subst h1; exact goodCell_blk t n s w
    · by_cases h2 : k = 2
      · subst h2; exact goodCell_str t n s w
      · exact goodCell_other k t n s h0 h1 h2 w
end Go.Proofs.YtnjpjhlodamanaaGreatDoor

/-
  What 'In' lays, as plain data: one cell after another; what goes out of it is the message.
  Conditions: as each states.
-/
namespace Go.Proofs.YtnjpjhlodamanaaGreatDoor
set_option linter.unusedVariables false
set_option linter.unusedSimpArgs false
open Go.ChangeShapes Go.WideShapes Go.ChangeAt Go.RowKit
set_option maxRecDepth 100000

def newO (c : PCe) : List Ob := if c.1 = 0 then [] else [obC c]
def wordOf (first : Int) (p : Nat) (c : PCe) : Int := if c.1 = 0 then wInt c.2.2.1 else wPlace (first + (p : Int))
def gapsC (p : Nat) (c : PCe) : List (Nat × Nat) := gapsOf p (hasC c).toNat

theorem text_none {s : ByteArray} (h : s.size = 0) : s = noText := by
  obtain ⟨a⟩ := s
  have : a = #[] := by
    apply Array.eq_empty_of_size_eq_zero
    exact h
  subst this
  rfl
theorem num_cell {c : PCe} (h : goodC c = true) (h0 : c.1 = 0) : c = numCe c.2.2.1 ∧ fit63 c.2.2.1 := by
  unfold goodC at h
  rw [if_pos h0] at h
  obtain ⟨h1, h2, h3⟩ := of_decide_eq_true h
  obtain ⟨k, t, n, s⟩ := c
  simp only at h0 h1 h2 h3
  subst h0 h1
  rw [text_none h2]
  exact ⟨rfl, h3⟩
theorem blk_cell {c : PCe} (h : goodC c = true) (h0 : c.1 = 1) : c = blkCe c.2.1 c.2.2.1 ∧ 0 ≤ c.2.1 ∧ c.2.1 ≤ 255 ∧ 1 ≤ c.2.2.1 ∧ c.2.2.1 ≤ 8 := by
  unfold goodC at h
  rw [if_neg (by omega), if_pos h0] at h
  obtain ⟨h1, h2, h3, h4, h5⟩ := of_decide_eq_true h
  obtain ⟨k, t, n, s⟩ := c
  simp only at h0 h1 h2 h3 h4 h5
  subst h0
  rw [text_none h5]
  exact ⟨rfl, h1, h2, h3, h4⟩
theorem str_cell {c : PCe} (h : goodC c = true) (h0 : c.1 ≠ 0) (h1 : c.1 ≠ 1) : c = strCe c.2.2.2 ∧ c.2.2.2.size ≤ 400 := by
  unfold goodC at h
  rw [if_neg h0, if_neg h1] at h
  split at h
  · rename_i h2
    obtain ⟨h3, h4, h5⟩ := of_decide_eq_true h
    obtain ⟨k, t, n, s⟩ := c
    simp only at h2 h3 h4 h5
    subst h2 h3 h4
    exact ⟨rfl, h5⟩
  · cases h
theorem obC_len (c : PCe) : (obC c).fs.length = (hasC c).toNat := by simp [obC]
theorem obC_may {c : PCe} (h : goodC c = true) (h0 : c.1 ≠ 0) : (obC c).may = true := by
  rw [Ob.may_eq, obC_len]
  by_cases h1 : c.1 = 1
  · obtain ⟨e, a1, a2, a3, a4⟩ := blk_cell h h1
    obtain ⟨k, t, n, s⟩ := c
    simp only at h1 a1 a2 a3 a4
    subst h1
    have es : s = noText := by unfold blkCe at e; exact (Prod.mk.inj (Prod.mk.inj (Prod.mk.inj e).2).2).2
    subst es
    simp [obC, headR, hasH, mayH, sizeH, hasC, noText]
    omega
  · obtain ⟨e, a1⟩ := str_cell h h0 h1
    obtain ⟨k, t, n, s⟩ := c
    simp only at a1
    unfold strCe at e
    cases e
    simp [obC, headR, hasH, mayH, sizeH, hasC]
    omega
theorem obC_fit (c : PCe) : (obC c).fit := by
  intro x hx
  simp only [obC] at hx
  obtain rfl := List.eq_of_mem_replicate hx
  exact ⟨by decide, by decide⟩
theorem wordsC_obC {c : PCe} (h : goodC c = true) (h0 : c.1 ≠ 0) : (obC c).words = wordsC c := by
  have hm := obC_may h h0
  rw [Ob.may_eq, obC_len] at hm
  have e : (obC c).tx.length = c.2.2.2.size := by simp [obC]
  rw [e] at hm
  change headR c.1 c.2.1 (hasC c).toNat c.2.2.2.size = true at hm
  unfold wordsC wordsR
  rw [if_pos hm]
  unfold Ob.words Ob.long Ob.size
  rw [obC_len, e]
  rfl
theorem newO_words {c : PCe} (h : goodC c = true) : (flat (newO c)).length = wordsC c := by
  unfold newO
  by_cases h0 : c.1 = 0
  · rw [if_pos h0]
    obtain ⟨e, _⟩ := num_cell h h0
    rw [e]
    unfold numCe
    rw [wordsC_num]
    rfl
  · rw [if_neg h0, flat_cons, List.length_append, Ob.lay_length, wordsC_obC h h0]
    simp [flat]

theorem wVal_wInt {n : Int} (h : fit63 n) : wVal (wInt n) = n ∧ wIs (wInt n) = true := by
  obtain ⟨h1, h2⟩ := h
  have hp : wInt n % 2 = 1 := by unfold wInt; omega
  refine ⟨?_, by unfold wIs; rw [decide_eq_true hp]⟩
  unfold wVal
  rw [if_pos hp]
  unfold wNum wInt wrap64
  omega
theorem wInt_fit (n : Int) : fitW (wInt n) := by unfold wInt; constructor <;> omega
theorem place_two {x : Int} (h0 : 0 ≤ x) (h1 : x ≤ 4294967295) : wPlace x = 2 * x ∧ wIs (wPlace x) = false ∧ wOk (wPlace x) = true ∧ wAt (wPlace x) = x := by
  have e : wPlace x = 2 * x := by unfold wPlace; rw [if_neg (by omega)]
  rw [e]
  refine ⟨rfl, ?_, ?_, ?_⟩
  · unfold wIs; exact decide_eq_false (by omega)
  · unfold wOk; exact decide_eq_true (by omega)
  · unfold wAt; rw [if_pos (by omega)]; omega
theorem refers_place {first : Int} {obs : List Ob} {p : Nat} {o : Ob} (h : objAt obs p = some o) (h0 : 0 ≤ first) (h1 : first + (p : Int) ≤ 4294967295) : refers first obs (wPlace (first + (p : Int))) = some p := by
  obtain ⟨_, _, e3, e4⟩ := place_two (x := first + (p : Int)) (by omega) h1
  unfold refers
  rw [e3, e4]
  have e5 : (first + (p : Int) - first).toNat = p := by omega
  rw [e5, h, decide_eq_true (by omega)]
  rfl
/-- A cell's word tells it. -/
theorem tells_num {first : Int} {p : Nat} {c : PCe} (h : goodC c = true) (h0 : c.1 = 0) (obs : List Ob) : lookW first obs (wordOf first p c) = some (c, []) := by
  obtain ⟨e, hf⟩ := num_cell h h0
  unfold wordOf lookW
  rw [if_pos h0, (wVal_wInt hf).2, if_pos rfl, (wVal_wInt hf).1, ← e]
theorem tells_obj {first : Int} {p : Nat} {c : PCe} (h : goodC c = true) (h0 : c.1 ≠ 0) {obs : List Ob} {o : Ob} (ho : objAt obs p = some o)
    (hk : o.kind = c.1) (ht : o.tag = c.2.1) (hx : o.tx = c.2.2.2.data.toList) (hl : o.fs.length = (hasC c).toNat) (hf : 0 ≤ first) (hp : first + (p : Int) ≤ 4294967295) :
    lookW first obs (wordOf first p c) = some (c, if c.1 = 1 then o.fs else []) := by
  unfold wordOf lookW
  rw [if_neg h0, (place_two (x := first + (p : Int)) (by omega) hp).2.1, refers_place ho hf hp]
  simp only [Bool.false_eq_true, if_false]
  rw [ho]
  simp only
  by_cases h1 : c.1 = 1
  · obtain ⟨e, _, _, a3, _⟩ := blk_cell h h1
    rw [if_pos (by rw [hk, h1]), if_pos h1, ht, hl]
    have e2 : ((hasC c).toNat : Int) = c.2.2.1 := by unfold hasC; rw [if_pos h1]; omega
    rw [e2, ← e]
  · obtain ⟨e, _⟩ := str_cell h h0 h1
    have hk2 : c.1 = 2 := by rw [e]; rfl
    rw [if_neg (by rw [hk]; exact h1), if_pos (by rw [hk]; exact hk2), if_neg h1, hx]
    have e2 : (⟨c.2.2.2.data.toList.toArray⟩ : ByteArray) = c.2.2.2 := by simp
    rw [e2, ← e]

theorem Ext_comp {G1 G2 : List (Nat × Nat)} {a b c : List Ob} (h1 : Ext G1 a b) (h2 : Ext G2 b c) (hs : ∀ p o, objAt a p = some o → ∀ f, (p, f) ∈ G2 → (p, f) ∈ G1) : Ext G1 a c := by
  intro p o ho
  obtain ⟨o1, e1, k1, t1, x1, l1, f1⟩ := h1 p o ho
  obtain ⟨o2, e2, k2, t2, x2, l2, f2⟩ := h2 p o1 e1
  exact ⟨o2, e2, k2.trans k1, t2.trans t1, x2.trans x1, l2.trans l1, fun f hf => (f2 f fun hg => hf (hs p o ho f hg)).trans (f1 f hf)⟩

/-- What a cell and what it has come to, where its object stands at p in obs'. -/
theorem tells_fill {first : Int} {p : Nat} {c : PCe} (h : goodC c = true) {base obs' : List Ob} {G : List (Nat × Nat)} (hf : 0 ≤ first) (hp : first + (p : Int) ≤ 4294967295)
    (hb : c.1 ≠ 0 → objAt base p = some (obC c)) (hE : Ext (gapsC p c ++ G) base obs') {ws : List Int} (hF : Fill obs' (gapsC p c ++ G) ws) :
    ∃ u v, ws = u ++ v ∧ lookW first obs' (wordOf first p c) = some (c, u) ∧ Fill obs' G v := by
  obtain ⟨u, v, rfl, hu, hv⟩ := Fill_app hF
  refine ⟨u, v, rfl, ?_, hv⟩
  by_cases h0 : c.1 = 0
  · have e : gapsC p c = [] := by unfold gapsC hasC gapsOf; rw [if_neg (by omega)]; rfl
    rw [e] at hu
    have : u = [] := hu
    rw [this]
    exact tells_num h h0 obs'
  · obtain ⟨o', e1, k1, t1, x1, l1, _⟩ := hE p _ (hb h0)
    rw [obC_len] at l1
    have ht := tells_obj (first := first) h h0 e1 k1 t1 x1 l1 hf hp
    rw [ht]
    congr 2
    unfold gapsC at hu
    rw [← l1] at hu
    have := Fill_gaps e1 hu
    by_cases h1 : c.1 = 1
    · rw [if_pos h1, this]
    · rw [if_neg h1, this]
      have : o'.fs.length = 0 := by rw [l1]; unfold hasC; rw [if_neg h1]; rfl
      exact (List.length_eq_zero_iff.1 this).symm

theorem gapsC_gap {p : Nat} {c : PCe} {g : Nat × Nat} (hg : g ∈ gapsC p c) : g.1 = p ∧ g.2 < (hasC c).toNat ∧ c.1 = 1 := by
  obtain ⟨h1, h2⟩ := gapsOf_mem.1 hg
  refine ⟨h1, h2, ?_⟩
  apply Classical.byContradiction
  intro hc
  unfold hasC at h2
  rw [if_neg hc] at h2
  simp at h2

/-- The first cell. -/
theorem InI.start {first : Int} {obs : List Ob} {c : PCe} (h : goodC c = true) (hf : 0 ≤ first) (hp : first + ((flat obs).length : Int) ≤ 4294967295) :
    InI first obs (newO c) (wordOf first (flat obs).length c) [c] (gapsC (flat obs).length c) := by
  have hb : c.1 ≠ 0 → objAt (obs ++ newO c) (flat obs).length = some (obC c) := fun h0 => by
    unfold newO; rw [if_neg h0]; exact objAt_here obs [] _
  refine ⟨fun g hg => ?_, gapsOf_once _ _, ?_, by rw [newO_words h]; simp [wordsM]⟩
  · obtain ⟨e1, e2, e3⟩ := gapsC_gap hg
    rw [e1]
    exact ⟨Nat.le_refl _, obC c, hb (by omega), e3, by rw [obC_len]; exact e2⟩
  · intro obs' ws cs hE hF hO
    obtain ⟨u, v, rfl, hl, hv⟩ := tells_fill (G := []) h hf hp hb (by rwa [List.append_nil]) (by rwa [List.append_nil])
    have : v = [] := hv
    subst this
    exact ⟨_, [], u, rfl, hl, hO⟩

/-- One cell more: its object is laid, its word fills the first gap. -/
theorem InI.step {first : Int} {obs X : List Ob} {w0 : Int} {done : List PCe} {g : Nat × Nat} {G : List (Nat × Nat)} (hI : InI first obs X w0 done (g :: G)) {c : PCe} (h : goodC c = true) (hf : 0 ≤ first)
    (hp : first + ((flat (obs ++ X)).length : Int) ≤ 4294967295) :
    ∃ X', setAll (obs ++ (X ++ newO c)) g.1 g.2 (wordOf first (flat (obs ++ X)).length c) = obs ++ X' ∧ InI first obs X' w0 (done ++ [c]) (gapsC (flat (obs ++ X)).length c ++ G) := by
  obtain ⟨hg0, o, hgo, hgk, hgl⟩ := hI.gap g (by simp)
  have hlt := objAt_lt hgo
  have hgo2 : objAt (obs ++ (X ++ newO c)) g.1 = some o := by rw [← List.append_assoc]; exact objAt_append _ hgo
  obtain ⟨X', e, hXl⟩ := setAll_behind (i := g.2) (v := wordOf first (flat (obs ++ X)).length c) hgo2 hg0
  refine ⟨X', e, ?_⟩
  have hn := List.nodup_cons.1 hI.once
  have hbN : c.1 ≠ 0 → objAt (obs ++ X') (flat (obs ++ X)).length = some (obC c) := fun h0 => by
    rw [← e, objAt_setAll_other _ hgo2 (by omega), ← List.append_assoc]
    unfold newO; rw [if_neg h0]; exact objAt_here (obs ++ X) [] _
  have hE1 : Ext (g :: G) (obs ++ X) (obs ++ X') := by
    rw [← e]
    refine Ext_objs (b := obs ++ (X ++ newO c)) ?_ (Ext_set _ hgo2 (by simp))
    rw [← List.append_assoc]
    exact Ext_append _ _ _
  refine ⟨fun q hq => ?_, ?_, ?_, ?_⟩
  · rcases List.mem_append.1 hq with hq | hq
    · obtain ⟨e1, e2, e3⟩ := gapsC_gap hq
      rw [e1]
      refine ⟨by rw [flat_append, List.length_append]; omega, obC c, hbN (by omega), e3, by rw [obC_len]; exact e2⟩
    · obtain ⟨q0, oq, hqo, hqk, hql⟩ := hI.gap q (by simp [hq])
      obtain ⟨o', e1, k1, _, _, l1, _⟩ := hE1 _ _ hqo
      exact ⟨q0, o', e1, k1.trans hqk, by rw [l1]; exact hql⟩
  · rw [List.nodup_append]
    refine ⟨gapsOf_once _ _, hn.2, fun a ha b hb e => ?_⟩
    subst e
    obtain ⟨e1, _, _⟩ := gapsC_gap ha
    obtain ⟨_, oq, hqo, _, _⟩ := hI.gap a (by simp [hb])
    have := objAt_lt hqo
    omega
  · intro obs' ws cs hE hF hO
    obtain ⟨u, v, rfl, hl, hv⟩ := tells_fill h hf hp hbN hE hF
    have key := hI.cont obs' (wordOf first (flat (obs ++ X)).length c :: v) (c :: cs) ?_ ?_ ⟨_, v, u, rfl, hl, hO⟩
    · rwa [List.append_assoc]
    · refine Ext_comp hE1 hE fun p o ho f hm => ?_
      rcases List.mem_append.1 hm with hm | hm
      · obtain ⟨e1, _, _⟩ := gapsC_gap hm
        have := objAt_lt ho
        simp only at e1
        omega
      · exact List.mem_cons_of_mem _ hm
    · refine ⟨_, v, rfl, ?_, hv⟩
      have hs : objAt (obs ++ X') g.1 = some (o.setF g.2 (wordOf first (flat (obs ++ X)).length c)) := by rw [← e]; exact objAt_setAll_same _ hgo2
      obtain ⟨o', e1, _, _, _, _, f1⟩ := hE _ _ hs
      refine ⟨o', e1, ?_⟩
      rw [f1 g.2 (fun hm => ?_)]
      · simp [Ob.setF, hgl]
      · rcases List.mem_append.1 hm with hm | hm
        · obtain ⟨e1, _, _⟩ := gapsC_gap hm
          simp only at e1
          omega
        · exact hn.1 hm
  · rw [hXl, flat_append, List.length_append, newO_words h, hI.words, wordsM_app]
    simp [wordsM]
/-- All is laid. -/
theorem InI.done {first : Int} {obs X : List Ob} {w0 : Int} {m : List PCe} (hI : InI first obs X w0 m []) : outL first (obs ++ X) [w0] m := by
  have := hI.cont (obs ++ X) [] [] (fun p o ho => ⟨o, ho, rfl, rfl, rfl, rfl, fun _ _ => rfl⟩) rfl rfl
  rwa [List.append_nil] at this
/-- How many gaps there are. -/
theorem gapsC_length (p : Nat) (c : PCe) : (gapsC p c).length = (hasC c).toNat := by simp [gapsC, gapsOf]
/-- A word that goes out may be a field. -/
theorem look_field {first : Int} {obs : List Ob} {x : Int} {p : PCe × List Int} (h : lookW first obs x = some p) : fieldOk first obs x = true := by
  unfold lookW at h
  unfold fieldOk
  split at h
  · rename_i hw; rw [hw, Bool.or_true]
  · split at h
    · cases h
    · rename_i m hm; rw [hm]; rfl
end Go.Proofs.YtnjpjhlodamanaaGreatDoor

/-
  Package data: the cell of a word ('cellOf').
  Conditions: as each states.
-/
namespace Go.Proofs.YtnjpjhlodamanaaGreatDoor
set_option linter.unusedVariables false
set_option linter.unusedSimpArgs false
open Go.ChangeShapes Go.WideShapes Go.ChangeAt Go.RowKit
set_option maxRecDepth 100000

def CellT (first : Int) (obs : List Ob) (x : Int) (w : World) (e : Ending) (w' : World) : Prop :=
  Below w.heap.size w w' ∧ ((∃ c fs a cap, lookW first obs x = some (c, fs) ∧ e = .returned (.tuple #[ceV c, .slice a fs.length cap, .bool true]) ∧ w'.ownsRow w.heap.size 42 1 (.slice a fs.length cap) fs.length (wordsL fs)) ∨
    (lookW first obs x = none ∧ e = .returned (.tuple #[ceV (0, 0, 0, ⟨#[]⟩), .slice none 0 0, .bool false])))
theorem owns_none (w : World) (B : Nat) (T : TypeId) : w.ownsRow B T 1 (.slice none 0 0) 0 (wordsL []) := ⟨by simp, .inl ⟨rfl, rfl⟩⟩
theorem lookW_num {first : Int} {obs : List Ob} {x : Int} (h : wIs x = true) : lookW first obs x = some (numCe (wVal x), []) := by
  unfold lookW; rw [if_pos h]
theorem lookW_ob {A : Ar} {base half space top x : Int} {obs : List Ob} (ho : A.objs base half space top = some obs) (h : wIs x = false) :
    lookW (space * half) obs x = match A.getOb base half space top x with | none => none | some o => if o.kind = 1 then some (blkCe o.tag o.fs.length, o.fs) else if o.kind = 2 then some (strCe ⟨o.tx.toArray⟩, []) else none := by
  unfold lookW Ar.getOb
  rw [ho, h]
  simp only [Bool.false_eq_true, if_false]
  cases refers (space * half) obs x with
  | none => rfl
  | some m => rfl
set_option maxHeartbeats 8000000 in
theorem cellOf_num {w : World} (p : Option Addr) (base half space top x first : Int) (obs : List Ob) (hx : fitW x) (h : wIs x = true) :
    Calls Tryz.prog 39 #[.pointer p, heapV base half space top, .int .u64 x] w (CellT first obs x w) := by
  have E := Lib.hid (lookW_num (first := first) (obs := obs) h)
  have hx0 : 0 ≤ x := hx.1
  have hx1 : x ≤ 18446744073709551615 := by have := hx.2; omega
  have HIS := Lib.hid (fun W => is_any x hx0 hx1 W)
  rw [h] at HIS
  clear hx h
  go_enter Tryz.func39, Tryz.ntmps39
  go_wp2_with fail
  refine (HIS.out _).mono ?_
  rintro e w1 ⟨rfl, rfl⟩
  go_wp2_with fail
  obtain ⟨W, hW⟩ : ∃ W, W = (w.alloc (.cells #[.int .i64 base, .int .i64 half, .int .i64 space, .int .i64 top] 24)).alloc (.cells #[.int .i64 0, .int .i64 0, .int .i64 0, .string ⟨#[]⟩] 51) := ⟨_, rfl⟩
  rw [← hW]
  have R2 := Lib.hid (show rowAt W (w.heap.size + 1) 51 [.int .i64 0, .int .i64 0, .int .i64 0, .string ⟨#[]⟩] by rw [hW]; exact rowAt.made_at _ _ (by simp))
  have BW := Lib.hid (show Below w.heap.size w W by rw [hW]; exact bl_alloc (bl_alloc (Below.refl _ _) _) _)
  clear hW HIS
  refine (value_any x hx0 hx1 _).mono ?_
  rintro e w2 ⟨rfl, b2⟩
  have R3 := Lib.hid (R2.out.below b2 R2.out.lt)
  have B2 := Lib.hid (bl_call BW.out b2)
  clear b2
  go_wp2_with fail
  refine (numberOf_any _ _).mono ?_
  rintro e w3 ⟨rfl, b3⟩
  have r3 := R3.out.below b3 R3.out.lt
  have B3 := Lib.hid (bl_call B2.out b3)
  obtain ⟨x0, x1, x2, x3⟩ := cells4 r3
  have f0 := r3.free 0
  have f1 := r3.free 1
  have f2 := r3.free 2
  have f3 := r3.free 3
  have l4 := r3.lt
  clear b3 r3
  go_wp2_with fail
  refine bodyPost_ret (v := .tuple #[ceV (numCe (wVal x)), .slice none 0 0, .bool true]) ?_ rfl ⟨?_, .inl ⟨_, _, none, 0, E.out, rfl, owns_none _ _ _⟩⟩
  · simp [results, Tryz.results39, go_sem, x0, x1, x2, x3, l4, numCe, noText]
  · repeat (first | exact B3.out | refine bl_set ?_ (by simp) _)
set_option maxHeartbeats 16000000 in
theorem cellOf_ob {w : World} {p : Nat} {F : Nat → Prop} {A : Ar} (hA : Held w p F A) (base half space top x : Int) (hx : fitW x) {obs : List Ob} (ho : A.objs base half space top = some obs) (h : wIs x = false) :
    Calls Tryz.prog 39 #[.pointer (some ⟨p, 0, none⟩), heapV base half space top, .int .u64 x] w (CellT (space * half) obs x w) := by
  have E := Lib.hid (lookW_ob ho h)
  have hx0 : 0 ≤ x := hx.1
  have hx1 : x ≤ 18446744073709551615 := by have := hx.2; omega
  have HIS := Lib.hid (fun W => is_any x hx0 hx1 W)
  rw [h] at HIS
  have HX := Lib.hid hx
  have HA := Lib.hid hA
  clear hx h hA ho hx0 hx1
  obtain ⟨FI, hFI⟩ : ∃ FI, space * half = FI := ⟨_, rfl⟩
  rw [hFI] at E ⊢
  clear hFI
  obtain ⟨W, hW⟩ : ∃ W, W = (w.alloc (.cells #[.int .i64 base, .int .i64 half, .int .i64 space, .int .i64 top] 24)).alloc (.cells #[.int .i64 0, .int .i64 0, .int .i64 0, .string ⟨#[]⟩] 51) := ⟨_, rfl⟩
  have r1 : rowAt W w.heap.size 24 [.int .i64 base, .int .i64 half, .int .i64 space, .int .i64 top] := by rw [hW]; exact (rowAt.made _ _ _).alloc _
  have R2 := Lib.hid (show rowAt W (w.heap.size + 1) 51 [.int .i64 0, .int .i64 0, .int .i64 0, .string ⟨#[]⟩] by rw [hW]; exact rowAt.made_at _ _ (by simp))
  have BW := Lib.hid (show Below w.heap.size w W by rw [hW]; exact bl_alloc (bl_alloc (Below.refl _ _) _) _)
  obtain ⟨d0, d1, d2, d3⟩ := cells4 r1
  have HGE := Lib.hid (get_any' (HA.out.below BW.out) base half space top x HX.out)
  go_enter Tryz.func39, Tryz.ntmps39
  go_wp2_with fail
  refine (HIS.out _).mono ?_
  rintro e w1 ⟨rfl, rfl⟩
  go_wp2_with fail
  rw [← hW]
  clear hW HIS r1
  refine HGE.out.mono ?_
  rintro e w3 ⟨b3, hgot⟩
  rcases hgot with ⟨o, oa, oc, hgo, rfl, hown⟩ | ⟨hgo, rfl⟩
  · rw [hgo] at E
    simp only at E
    have OW := Lib.hid hown
    obtain ⟨ok, ot, of, ox⟩ := o
    simp only at E OW
    clear hgo hown HGE d0 d1 d2 d3
    obtain ⟨W4, hW4⟩ : ∃ W4, w3.alloc (.cells #[.int .i64 ok, .int .i64 ot, .slice oa of.length oc, .string ⟨ox.toArray⟩] 86) = W4 := ⟨_, rfl⟩
    have r4 : rowAt W4 w3.heap.size 86 [.int .i64 ok, .int .i64 ot, .slice oa of.length oc, .string ⟨ox.toArray⟩] := by rw [← hW4]; exact rowAt.made _ _ _
    have b4 : Below w3.heap.size w3 W4 := by rw [← hW4]; exact bl_alloc (Below.refl _ _) _
    have RR := Lib.hid ((R2.out.below b3 R2.out.lt).below b4 (by have := R2.out.lt; have := b3.size; omega))
    have B4 := Lib.hid (bl_call BW.out (bl_call b3 b4))
    have R4 := Lib.hid r4
    obtain ⟨o0, o1, o2, o3⟩ := cells4 r4
    have ol := r4.lt
    have OW4 := Lib.hid (owns_below OW.out b4 (fun g hg => (OW.out.lt g hg).2))
    have OB := Lib.hid (owns_base OW4.out (B' := w.heap.size) (fun g hg => by have := (OW.out.lt g hg).1; have := BW.out.size; omega))
    have LZ : w.heap.size + 1 < w3.heap.size := (R2.out.below b3 R2.out.lt).lt
    have LO := Lib.hid (fun g (hg : (Value.slice oa of.length oc).ownBlock = some g) => (show g ≠ w.heap.size + 1 by have := (OW.out.lt g hg).1; have := R2.out.lt; omega))
    clear b3 b4 r4
    by_cases k1 : ok = 1
    · subst k1
      rw [if_pos rfl] at E
      have LX := Lib.hid E.out
      go_wp2_with fail
      have OBD := Lib.hid (show W4.drew.ownsRow w.heap.size 42 1 (.slice oa of.length oc) of.length (wordsL of) from OB.out)
      have OBL := Lib.hid (fun g hg => (OB.out.lt g hg).2)
      have G0 := Lib.hid (show W4.drew.cell? ⟨w3.heap.size, 1, none⟩ = some (.int .i64 ot) ∧ W4.drew.cell? ⟨w3.heap.size, 2, none⟩ = some (.slice oa of.length oc) from ⟨o1, o2⟩)
      have nb : w3.heap.size ≠ w.heap.size + 1 := by omega
      go_region_held3 (fun w' => w'.cell? ⟨w3.heap.size, 1, none⟩ = some (.int .i64 ot) ∧ w'.cell? ⟨w3.heap.size, 2, none⟩ = some (.slice oa of.length oc)) (first | with_reducible exact G0.out | with_reducible exact ⟨o1, o2⟩ | with_reducible exact ⟨y1, y2⟩ | (refine ⟨?_, ?_⟩ <;> simp [go_sem, y1, y2, nb]))
        (first
          | (go_at_call 64
             refine (blockOf_any _ _ _).mono ?_
             rintro e w5 ⟨rfl, b5⟩
             have S5 := Lib.hid (R4.out.drew.below b5 R4.out.lt)
             have y1 : w5.cell? ⟨w3.heap.size, 1, none⟩ = some (.int .i64 ot) := (S5.out.cell 1).trans rfl
             have y2 : w5.cell? ⟨w3.heap.size, 2, none⟩ = some (.slice oa of.length oc) := (S5.out.cell 2).trans rfl
             have B5 := Lib.hid (bl_call (bl_drew B4.out) b5)
             have R5 := Lib.hid (RR.out.drew.below b5 RR.out.lt)
             obtain ⟨x0, x1, x2, x3⟩ := cells4 R5.out
             have f0 := R5.out.free 0
             have f1 := R5.out.free 1
             have f2 := R5.out.free 2
             have f3 := R5.out.free 3
             have l5 := R5.out.lt
             have OO := Lib.hid (owns_below OBD.out b5 OBL.out)
             clear b5))
      all_goals
        go_wp2_with fail
        refine bodyPost_ret (v := .tuple #[ceV (blkCe ot of.length), .slice oa of.length oc, .bool true]) ?_ rfl ⟨?_, .inl ⟨_, _, oa, oc, LX.out, rfl, ?_⟩⟩
        · simp [results, Tryz.results39, go_sem, x0, x1, x2, x3, l5, blkCe, noText]
        · repeat (first | exact B5.out | refine bl_set ?_ (by simp) _)
        · refine owns_upon (S := fun q => q = w.heap.size + 1) OO.out ?_ (fun g hg => LO.out g hg)
          repeat (first | exact Upon.refl _ _ | refine Upon.trans (T := fun q => q = w.heap.size + 1) ?_ (Upon.setCell (S := fun q => q = w.heap.size + 1) _ _ (by rfl)) (fun _ _ h => h))
    · rw [if_neg k1] at E
      by_cases k2 : ok = 2
      · subst k2
        rw [if_pos rfl] at E
        have LX := Lib.hid E.out
        clear k1
        go_wp2_with fail
        refine (strOf_any _ _).mono ?_
        rintro e w5 ⟨rfl, b5⟩
        have R5 := Lib.hid (RR.out.below b5 RR.out.lt)
        obtain ⟨x0, x1, x2, x3⟩ := cells4 R5.out
        have B5 := Lib.hid (bl_call B4.out b5)
        have f0 := R5.out.free 0
        have f1 := R5.out.free 1
        have f2 := R5.out.free 2
        have f3 := R5.out.free 3
        have l5 := R5.out.lt
        clear b5
        go_wp2_with fail
        refine bodyPost_ret (v := .tuple #[ceV (strCe ⟨ox.toArray⟩), .slice none 0 0, .bool true]) ?_ rfl ⟨?_, .inl ⟨_, _, none, 0, LX.out, rfl, owns_none _ _ _⟩⟩
        · simp [results, Tryz.results39, go_sem, x0, x1, x2, x3, l5, strCe]
        · repeat (first | exact B5.out | refine bl_set ?_ (by simp) _)
      · rw [if_neg k2] at E
        have LX := Lib.hid E.out
        have t1 : (ok == 1) = false := beq_eq_false_iff_ne.2 k1
        have t2 : (ok == 2) = false := beq_eq_false_iff_ne.2 k2
        clear k1 k2
        obtain ⟨x0, x1, x2, x3⟩ := cells4 RR.out
        have f0 := RR.out.free 0
        have f1 := RR.out.free 1
        have f2 := RR.out.free 2
        have f3 := RR.out.free 3
        have l4 := RR.out.lt
        go_wp2_with fail
        refine bodyPost_ret (v := .tuple #[ceV (0, 0, 0, ⟨#[]⟩), .slice none 0 0, .bool false]) ?_ rfl ⟨?_, .inr ⟨LX.out, rfl⟩⟩
        · simp [results, Tryz.results39, go_sem, x0, x1, x2, x3, l4]
        · repeat (first | exact B4.out | refine bl_set ?_ (by simp) _)
  · rw [hgo] at E
    simp only at E
    have LX := Lib.hid E.out
    clear hgo HGE d0 d1 d2 d3
    have RR := Lib.hid (R2.out.below b3 R2.out.lt)
    have B3 := Lib.hid (bl_call BW.out b3)
    obtain ⟨x0, x1, x2, x3⟩ := cells4 RR.out
    have f0 := RR.out.free 0
    have f1 := RR.out.free 1
    have f2 := RR.out.free 2
    have f3 := RR.out.free 3
    have l4 := RR.out.lt
    have l5 : w.heap.size + 1 ≠ w3.heap.size := by omega
    have l6 : w.heap.size + 1 < w3.heap.size + 1 := by omega
    clear b3
    go_wp2_with fail
    refine bodyPost_ret (v := .tuple #[ceV (0, 0, 0, ⟨#[]⟩), .slice none 0 0, .bool false]) ?_ rfl ⟨?_, .inr ⟨LX.out, rfl⟩⟩
    · simp [results, Tryz.results39, go_sem, x0, x1, x2, x3, l4, l5, l6]
    · repeat (first | exact B3.out | refine bl_set ?_ (by simp) _ | refine bl_alloc ?_ _)
theorem cellOf_any {w : World} {p : Nat} {F : Nat → Prop} {A : Ar} (hA : Held w p F A) (base half space top x : Int) (hx : fitW x) {obs : List Ob} (ho : A.objs base half space top = some obs) :
    Calls Tryz.prog 39 #[.pointer (some ⟨p, 0, none⟩), heapV base half space top, .int .u64 x] w (CellT (space * half) obs x w) := by
  cases h : wIs x
  · exact cellOf_ob hA base half space top x hx ho h
  · exact cellOf_num _ base half space top x _ obs hx h
end Go.Proofs.YtnjpjhlodamanaaGreatDoor

/-
  Package data: whether a message may be ('Good').
  Conditions: as each states.
-/
namespace Go.Proofs.YtnjpjhlodamanaaGreatDoor
set_option linter.unusedVariables false
set_option linter.unusedSimpArgs false
open Go.ChangeShapes Go.WideShapes Go.ChangeAt Go.RowKit
set_option maxRecDepth 100000

theorem goodCell_is {k t n : Int} {s : ByteArray} {b : Bool} (h : goodC (k, t, n, s) = b) (w : World) :
    Calls Tryz.prog 41 #[.agg #[.int .i64 k, .int .i64 t, .int .i64 n, .string s]] w fun e w' => e = .returned (.bool b) ∧ Below w.heap.size w w' := h ▸ goodCell_any k t n s w
theorem dhas_is {k t n : Int} {s : ByteArray} {j : Int} (h : hasC (k, t, n, s) = j) (w : World) :
    Calls Tryz.prog 42 #[.agg #[.int .i64 k, .int .i64 t, .int .i64 n, .string s]] w fun e w' => e = .returned (.int .i64 j) ∧ Below w.heap.size w w' := h ▸ dhas_any k t n s w
theorem ce_cells {S : Nat → Prop} {w : World} {v : Value} {m : List PCe} (h : rdAt S w v m.length (ceL m)) {k : Nat} {c : PCe} (hc : m[k]? = some c) :
    ∃ b o cap, v = .slice (some ⟨b, o, none⟩) m.length cap ∧ b < w.heap.size ∧ ¬ S b ∧ w.cell? ⟨b, o + k * 4, none⟩ = some (.int .i64 c.1) ∧ w.cell? ⟨b, o + k * 4 + 1, none⟩ = some (.int .i64 c.2.1) ∧ w.cell? ⟨b, o + k * 4 + 2, none⟩ = some (.int .i64 c.2.2.1) ∧ w.cell? ⟨b, o + k * 4 + 3, none⟩ = some (.string c.2.2.2) := by
  obtain ⟨a, cap, rfl, h⟩ := h
  rcases h with h0 | ⟨b, o, rfl, hS, hb, hc'⟩
  · have := (List.getElem?_eq_some_iff.1 hc).1; omega
  · obtain ⟨g0, g1, g2, g3⟩ := ceL_get m k c hc
    exact ⟨b, o, cap, rfl, hb, hS, hc' _ _ g0, by rw [Nat.add_assoc]; exact hc' _ _ g1, by rw [Nat.add_assoc]; exact hc' _ _ g2, by rw [Nat.add_assoc]; exact hc' _ _ g3⟩
set_option maxHeartbeats 4000000 in
theorem dgood_any {S : Nat → Prop} {w : World} {v : Value} {m : List PCe} (h : rdAt S w v m.length (ceL m)) :
    Calls Tryz.prog 19 #[v] w fun e w' => e = .returned (.bool (goodMs m)) ∧ Below w.heap.size w w' := by
  have H := Lib.hid h
  obtain ⟨a, cap, rfl⟩ := h.slice
  clear h
  by_cases hl : m.length ≤ 100
  · have EG := Lib.hid (show goodMs m = whB 1 m by unfold goodMs; rw [decide_eq_true hl, Bool.true_and])
    obtain ⟨g, hg⟩ : ∃ g, goodMs m = g := ⟨_, rfl⟩
    rw [hg] at EG ⊢
    clear hg
    go_enter Tryz.func19, Tryz.ntmps19
    go_wp2_with fail
    go_loopw [3, 11] (fun x i wr => ∃ (k : Nat) (W : Int), k ≤ m.length ∧ i = .int .i64 k ∧ x = .int .i64 W ∧ 0 ≤ W ∧ W ≤ 1 + 8 * (k : Int) ∧ Hid (g = whB W (m.drop k)) ∧ Hid (Below w.heap.size w wr)) (fun _ i _ => m.length - (intOf i).toNat)
    case atStart => exact ⟨0, 1, Nat.zero_le _, rfl, rfl, by omega, by omega, EG, Lib.hid (Below.refl _ _)⟩
    case round =>
      obtain ⟨k, W, hk, rfl, rfl, hW0, hW1, HG, HB⟩ := hrel
      by_cases hlt : k < m.length
      · have hx := Lib.hid (List.getElem?_eq_getElem hlt)
        have hd := List.drop_eq_getElem_cons hlt
        rw [hd] at HG
        clear hd
        generalize m[k] = c at *
        obtain ⟨b, o, cap', e, hb, -, c0, c1, c2, c3⟩ := ce_cells (H.out.below HB.out) hx.out
        cases e
        obtain ⟨ck, ct, cn, cs⟩ := c
        simp only at c0 c1 c2 c3
        by_cases hW : W = 0
        · have E := Lib.hid (show false = g by rw [HG.out, hW]; simp [whB])
          subst hW
          clear hW0 hW1
          go_wp2_with fail
          go_ret
          exact ⟨ret_bool E.out, bl_alloc HB.out _⟩
        · have tW : (W == 0) = false := beq_eq_false_iff_ne.2 hW
          cases hgc : goodC (ck, ct, cn, cs)
          · have E := Lib.hid (show false = g by rw [HG.out]; simp [whB, hgc])
            have GC := Lib.hid hgc
            clear hgc
            go_wp2_with fail
            refine (goodCell_is GC.out _).mono ?_
            rintro e w1 ⟨rfl, b1⟩
            have B1 := Lib.hid (bl_call (bl_alloc HB.out _) b1)
            clear b1
            go_wp2_with fail
            go_ret
            exact ⟨ret_bool E.out, B1.out⟩
          · have E := Lib.hid (show g = whB (W + (hasC (ck, ct, cn, cs) - 1)) (m.drop (k + 1)) by rw [HG.out, whB, hgc, Bool.true_and, show decide (W ≠ 0) = true from decide_eq_true hW, Bool.true_and])
            have GC := Lib.hid hgc
            have hj := hasC_nn hgc
            obtain ⟨j, hjj⟩ : ∃ j, hasC (ck, ct, cn, cs) = j := ⟨_, rfl⟩
            rw [hjj] at E hj
            have HJ := Lib.hid hjj
            clear hgc hjj
            obtain ⟨W0, hW0'⟩ : ∃ W0, wr.alloc (.cells #[.int .i64 ck, .int .i64 ct, .int .i64 cn, .string cs] 51) = W0 := ⟨_, rfl⟩
            have bW : Below wr.heap.size wr W0 := by rw [← hW0']; exact bl_alloc (Below.refl _ _) _
            have rW : rowAt W0 wr.heap.size 51 [.int .i64 ck, .int .i64 ct, .int .i64 cn, .string cs] := by rw [← hW0']; exact rowAt.made _ _ _
            have RW := Lib.hid rW
            have BW := Lib.hid bW
            obtain ⟨d0, d1, d2, d3⟩ := cells4 rW
            have dl := rW.lt
            clear bW rW
            go_wp2_with fail
            clear hW0'
            refine (goodCell_is GC.out _).mono ?_
            rintro e w1 ⟨rfl, b1⟩
            have R1 := Lib.hid (RW.out.below b1 RW.out.lt)
            have B1 := Lib.hid (bl_call BW.out b1)
            clear b1 d0 d1 d2 d3 dl
            obtain ⟨d0, d1, d2, d3⟩ := cells4 R1.out
            have dl := R1.out.lt
            go_wp2_with fail
            refine (dhas_is HJ.out _).mono ?_
            rintro e w2 ⟨rfl, b2⟩
            have B2 := Lib.hid (bl_call HB.out (bl_call B1.out b2))
            clear b2
            go_wp2_with fail
            go_roundw
            case rel => exact ⟨k + 1, W + (j - 1), by omega, by go_num, by go_num, by omega, by omega, E, B2⟩
            case measure => simp [intOf]; omega
      · obtain rfl : k = m.length := by omega
        have E := Lib.hid (show g = decide (W = 0) by rw [HG.out, List.drop_length]; rfl)
        clear HG
        by_cases hW : W = 0
        · have E' := Lib.hid (show true = g by rw [E.out, decide_eq_true hW])
          subst hW
          clear E
          go_wp2_with fail
          go_ret
          exact ⟨ret_bool E'.out, HB.out⟩
        · have E' := Lib.hid (show false = g by rw [E.out, decide_eq_false hW])
          have tW : (W == 0) = false := beq_eq_false_iff_ne.2 hW
          clear E
          go_wp2_with fail
          go_ret
          exact ⟨ret_bool E'.out, HB.out⟩
  · have EG := Lib.hid (show false = goodMs m by unfold goodMs; rw [decide_eq_false hl, Bool.false_and])
    obtain ⟨g, hg⟩ : ∃ g, goodMs m = g := ⟨_, rfl⟩
    rw [hg] at EG ⊢
    have hlI : (100 : Int) < m.length := by omega
    clear hg hl
    go_enter Tryz.func19, Tryz.ntmps19
    go_wp2_with fail
    go_ret
    exact ⟨ret_bool EG.out, Below.refl _ _⟩
theorem dgood_is {S : Nat → Prop} {w : World} {v : Value} {m : List PCe} {b : Bool} (hb : goodMs m = b) (h : rdAt S w v m.length (ceL m)) :
    Calls Tryz.prog 19 #[v] w fun e w' => e = .returned (.bool b) ∧ Below w.heap.size w w' := hb ▸ dgood_any h
end Go.Proofs.YtnjpjhlodamanaaGreatDoor

/-
  The statements' own helper over messages: Message.
  Conditions: as each states.
-/
namespace Go.Proofs.YtnjpjhlodamanaaGreatDoor
set_option linter.unusedVariables false
set_option linter.unusedSimpArgs false
open Go.ChangeShapes Go.WideShapes Go.ChangeAt Go.RowKit
set_option maxRecDepth 100000

theorem keepMessage_any {w : World} {u v : Value} {xs ys : List PCe} (hu : readsAt w u xs.length (ceL xs)) (hv : readsAt w v ys.length (ceL ys)) (hx : xs.length ≤ 140737488355328) {B : Bool} (hB : B = true ↔ xs = ys) :
    Calls Tryz.prog 15 #[u, v] w fun e w' => e = .returned (.bool B) ∧ ∃ q, w' = w.drewN q := by
  have HB := Lib.hid hB
  clear hB
  obtain ⟨a, c, rfl, ha⟩ := hu
  obtain ⟨a2, c2, rfl, ha2⟩ := hv
  by_cases hlen : xs.length = ys.length
  · rcases ha with h0 | ⟨b, o, rfl, hc⟩
    · have hx : xs = [] := List.length_eq_zero_iff.1 h0
      subst hx
      have hy : ys = [] := List.length_eq_zero_iff.1 (by rw [← hlen]; rfl)
      subst hy
      have HN := Lib.hid (show true = B from (HB.out.2 rfl).symm)
      clear hlen h0 ha2
      go_enter Tryz.func15, Tryz.ntmps15
      go_wp2
      go_rounds 1
      go_ret
      exact ⟨ret_bool HN.out, 0, rfl⟩
    · rcases ha2 with h0 | ⟨b2, o2, rfl, hc2⟩
      · have hx : xs = [] := List.length_eq_zero_iff.1 (by omega)
        subst hx
        have hy : ys = [] := List.length_eq_zero_iff.1 h0
        subst hy
        have HN := Lib.hid (show true = B from (HB.out.2 rfl).symm)
        clear hlen h0 hc
        go_enter Tryz.func15, Tryz.ntmps15
        go_wp2
        go_rounds 1
        go_ret
        exact ⟨ret_bool HN.out, 0, rfl⟩
      · have HC : Hid (∀ j u, (ceL xs)[j]? = some u → w.cell? ⟨b, o + j, none⟩ = some u) := hc
        have HC2 : Hid (∀ j u, (ceL ys)[j]? = some u → w.cell? ⟨b2, o2 + j, none⟩ = some u) := hc2
        have HL := Lib.hid hlen
        rw [← hlen]
        clear hc hc2 hlen
        go_enter Tryz.func15, Tryz.ntmps15
        go_wp2
        go_loopw [5] (fun i wr => ∃ k q : Nat, k ≤ xs.length ∧ i = .int .i64 k ∧ wr = w.drewN q ∧ Hid (xs.take k = ys.take k)) (fun i _ => xs.length - (intOf i).toNat)
        case atStart => exact ⟨0, 0, Nat.zero_le _, rfl, rfl, by simp [Hid]⟩
        case round =>
          obtain ⟨k, q, hk, rfl, rfl, HT⟩ := hrel
          by_cases hlt : k < xs.length
          · have hlt2 : k < ys.length := by rw [← HL.out]; exact hlt
            have gx := ceL_get xs k _ (List.getElem?_eq_getElem hlt)
            have gy := ceL_get ys k _ (List.getElem?_eq_getElem hlt2)
            have e1 : w.cell? ⟨b, o + k * 4, none⟩ = some (.int .i64 xs[k].1) := HC.out _ _ gx.1
            have e2 : w.cell? ⟨b, o + k * 4 + 1, none⟩ = some (.int .i64 xs[k].2.1) := HC.out _ _ gx.2.1
            have e2' : w.cell? ⟨b, o + k * 4 + 2, none⟩ = some (.int .i64 xs[k].2.2.1) := HC.out _ _ gx.2.2.1
            have e2'' : w.cell? ⟨b, o + k * 4 + 3, none⟩ = some (.string xs[k].2.2.2) := HC.out _ _ gx.2.2.2
            have e3 : w.cell? ⟨b2, o2 + k * 4, none⟩ = some (.int .i64 ys[k].1) := HC2.out _ _ gy.1
            have e4 : w.cell? ⟨b2, o2 + k * 4 + 1, none⟩ = some (.int .i64 ys[k].2.1) := HC2.out _ _ gy.2.1
            have e4' : w.cell? ⟨b2, o2 + k * 4 + 2, none⟩ = some (.int .i64 ys[k].2.2.1) := HC2.out _ _ gy.2.2.1
            have e4'' : w.cell? ⟨b2, o2 + k * 4 + 3, none⟩ = some (.string ys[k].2.2.2) := HC2.out _ _ gy.2.2.2
            clear gx gy
            by_cases heq : xs[k] = ys[k]
            · have f1 : ∀ w, (Op.equalIn 10000 51 (.agg #[.int .i64 xs[k].1, .int .i64 xs[k].2.1, .int .i64 xs[k].2.2.1, .string xs[k].2.2.2]) (.agg #[.int .i64 ys[k].1, .int .i64 ys[k].2.1, .int .i64 ys[k].2.2.1, .string ys[k].2.2.2])).run Tryz.prog w = .ok true w := fun w => by rw [run_ce_eq]; exact congrArg (Result.ok · w) ((ceEq_iff xs[k] ys[k]).2 heq)
              have HE := Lib.hid heq
              clear heq
              go_wp2
              go_quiet (fail)
              go_wp2
              go_roundw
              case rel => exact ⟨k + 1, _, by omega, by go_num, rfl, by show _ = _; rw [List.take_succ_eq_append_getElem hlt, List.take_succ_eq_append_getElem hlt2, HT.out, HE.out]⟩
              case measure => simp [intOf]; omega
            · have f1 : ∀ w, (Op.equalIn 10000 51 (.agg #[.int .i64 xs[k].1, .int .i64 xs[k].2.1, .int .i64 xs[k].2.2.1, .string xs[k].2.2.2]) (.agg #[.int .i64 ys[k].1, .int .i64 ys[k].2.1, .int .i64 ys[k].2.2.1, .string ys[k].2.2.2])).run Tryz.prog w = .ok false w := fun w => by rw [run_ce_eq]; exact congrArg (Result.ok · w) (ceEq_false heq)
              have HN := Lib.hid (show false = B from (Bool.eq_false_iff.2 fun e => heq (by have := HB.out.1 e; subst this; rfl)).symm)
              clear heq
              go_wp2
              go_quiet (fail)
              go_wp2
              go_ret
              exact ⟨ret_bool HN.out, _, by rw [World.drewN_drewN]⟩
          · have hke : k = xs.length := by omega
            have HD := Lib.hid (show true = B from (HB.out.2 (by
              have := HT.out
              rw [List.take_of_length_le (by omega), List.take_of_length_le (by have := HL.out; omega)] at this
              exact this)).symm)
            clear hke
            have hge : xs.length ≤ k := by omega
            clear hlt
            go_wp2
            go_ret
            exact ⟨ret_bool HD.out, _, rfl⟩
  · have HN := Lib.hid (show false = B from (Bool.eq_false_iff.2 fun e => hlen (by rw [HB.out.1 e])).symm)
    have hl : ((xs.length : Int) != (ys.length : Int)) = true := by simp; omega
    clear hlen ha ha2
    go_enter Tryz.func15, Tryz.ntmps15
    go_wp2
    go_ret
    exact ⟨ret_bool HN.out, 0, rfl⟩

theorem rd_reads {S : Nat → Prop} {w : World} {v : Value} {n : Nat} {cs : List Value} (h : rdAt S w v n cs) : readsAt w v n cs := by
  obtain ⟨a, c, rfl, h⟩ := h
  refine ⟨a, c, rfl, ?_⟩
  rcases h with h | ⟨b, o, rfl, _, _, hc⟩
  · exact .inl h
  · exact .inr ⟨b, o, rfl, hc⟩
theorem keepMessage_is {S T : Nat → Prop} {w : World} {u v : Value} {xs ys : List PCe} (hu : rdAt S w u xs.length (ceL xs)) (hv : rdAt T w v ys.length (ceL ys)) (hx : xs.length ≤ 140737488355328) {B : Bool} (hB : B = true ↔ xs = ys) :
    Calls Tryz.prog 15 #[u, v] w fun e w' => e = .returned (.bool B) ∧ Below w.heap.size w w' :=
  (keepMessage_any (rd_reads hu) (rd_reads hv) hx hB).mono fun e w' ⟨he, q, hq⟩ => ⟨he, by rw [hq]; exact below_draws (Below.refl _ _) q⟩
end Go.Proofs.YtnjpjhlodamanaaGreatDoor

/-
  Appends onto a row of the call's own, of any slice: as an equation, as a step of a region that draws its order, as a step of a walk; slices cut at either end.
  Conditions: as each states.
-/
namespace Go.Proofs.YtnjpjhlodamanaaGreatDoor
set_option linter.unusedVariables false
set_option linter.unusedSimpArgs false
open Go.ChangeShapes Go.WideShapes Go.ChangeAt Go.RowKit
set_option maxRecDepth 100000

section
variable {P : Program}
/-- append onto a row of the call's own, of whatever slice: nil and empty ones too. -/
theorem run_append_w (w : World) (t ty : TypeId) (base : Nat) (e : TypeId) (i : TypeInfo) (z : Value) (size bytes : Nat) (ht : P.underlying t = some (.slice e)) (hi : P.info? e = some i) (hz : i.zero = some z)
    (hsize : i.size = size) (hby : i.bytes = bytes) (hzs : z.cells.size = size) (hsz : 0 < size)
    (v : Value) (n : Nat) (xs : List Value) (hown : w.ownsRow base e size v n xs)
    (xa : Option Addr) (m c : Nat) (news : List Value) (hl : news.length = m * size) (hsrc : m = 0 ∨ ∃ ad, xa = some ad ∧ ∀ j u, news[j]? = some u → w.cell? (ad.add j) = some u) (h1 : ∀ u ∈ news, u.oneCell' = true)
    (h63 : n + m ≤ maxLen) (hbytes : (n + m) * bytes ≤ 140737488355328) (hbase : base ≤ w.heap.size) :
    ∃ v' w', (Builtin.append_ #[t, t] ty #[v, .slice xa m c]).run P w = .ok v' w' ∧ w'.ownsRow base e size v' (n + m) (xs ++ news) ∧ w.grownBy w' v.ownBlock ∧ (v'.ownBlock = v.ownBlock ∨ v'.ownBlock = some w.heap.size) := by
  by_cases h0 : m = 0
  · subst h0
    have hn : news = [] := List.length_eq_zero_iff.1 (by simpa using hl)
    subst hn
    refine ⟨v, w, ?_, by simpa using hown, ⟨rfl, rfl, rfl, Nat.le_refl _, fun _ _ _ => rfl⟩, .inl rfl⟩
    have hf : (Builtin.firstCells i.size 0 (.slice xa 0 c)).run P w = .ok #[] w := by
      cases xa with
      | none => simp [Builtin.firstCells]
      | some b => exact run_firstCells_some w i.size 0 b 0 c [] (by simp) (by simp)
    rcases hown.2 with ⟨rfl, rfl⟩ | ⟨g, cap, cur, rfl, _, _, hnc, _⟩
    · simp [Builtin.append_, run_underlying ht, sizeOf, typeInfo, hi, Builtin.lenOf, hf]
    · simp [Builtin.append_, run_underlying ht, sizeOf, typeInfo, hi, Builtin.lenOf, hf, hnc, storeCells]
  · obtain ⟨ad, rfl, hc⟩ := hsrc.resolve_left h0
    obtain ⟨v', w', a, b, c', _, d⟩ := run_append_own_at w base t ty e i z size bytes ht hi hz hsize hby hzs hsz v n xs hown ad m c news hl hc h1 h63 hbytes hbase
    exact ⟨v', w', a, b, c', d⟩

theorem step_append_w {w : World} {ops : Array Oper} {o : Oper} {a : Act} {K : Act → World → Prop} {Q : Exit → Act → World → Prop} {E : Prop} (hgd : o.guard = none) (s x : Operand) (t : TypeId)
    (ho : o.op = .call { callee := .builtin .append, args := #[s, x], argTypes := #[t, t] })
    (base : Nat) (e : TypeId) (i : TypeInfo) (z : Value) (size bytes : Nat) (ht : P.underlying t = some (.slice e)) (hi : P.info? e = some i) (hz : i.zero = some z)
    (hsize : i.size = size) (hby : i.bytes = bytes) (hzs : z.cells.size = size) (hsz : 0 < size)
    (v : Value) (n : Nat) (xs : List Value) (hs : a.eval s = v) (hown : w.ownsRow base e size v n xs)
    (xa : Option Addr) (m c : Nat) (news : List Value) (hx : a.eval x = .slice xa m c) (hl : news.length = m * size) (hsrc : m = 0 ∨ ∃ ad, xa = some ad ∧ ∀ j u, news[j]? = some u → w.cell? (ad.add j) = some u) (h1 : ∀ u ∈ news, u.oneCell' = true)
    (h63 : n + m ≤ maxLen) (hbytes : (n + m) * bytes ≤ 140737488355328) (hbase : base ≤ w.heap.size)
    (h : ∀ v' w', w'.ownsRow base e size v' (n + m) (xs ++ news) → w.grownBy w' v.ownBlock → (v'.ownBlock = v.ownBlock ∨ v'.ownBlock = some w.heap.size) → K (a.put o.dst v') w') :
    if Region.wanted o (yielded ops a.tmps) = true then Oper.wp P o a w K Q else E := by
  have hw : Region.wanted o (yielded ops a.tmps) = true := by simp [Region.wanted, hgd]
  rw [if_pos hw]
  obtain ⟨v', w', hr, h2, h3, h4⟩ := run_append_w (P := P) w t o.type base e i z size bytes ht hi hz hsize hby hzs hsz v n xs hown xa m c news hl hsrc h1 h63 hbytes hbase
  unfold Oper.wp execOp
  simp only [ho, resolve, invoke, builtin, Sem.run_bind, Sem.run_pure, Result.andThen_ok, List.map_toArray, List.map_cons, List.map_nil, hs, hx, hr]
  exact h v' w' h2 h3 h4
theorem run_slice_to_w (t e : TypeId) (ht : P.underlying t = some (.slice e)) {i : TypeInfo} (hi : P.info? e = some i) (a : Option Addr) {n c k : Nat} (hk : k ≤ n) (hn : n ≤ c) (w : World) :
    (Instr.slice t (.slice a n c) none (some (.int .i64 (k : Int))) none).run P w = .ok (.slice a k c) w := by
  have h1 : (0 : Int) ≤ k ∧ (k : Int) ≤ c := by omega
  have h2 : (a.map fun x => x.add 0) = a := by cases a <;> simp [Addr.add]
  have h3 : k ≤ c := by omega
  simp [Instr.slice, Instr.sliceBounds, Instr.sliceBound, asIntOf, run_underlying ht, sizeOf, typeInfo, hi, h2, h3]
theorem run_slice_from_w (t e : TypeId) (ht : P.underlying t = some (.slice e)) {i : TypeInfo} (hi : P.info? e = some i) (a : Option Addr) {n c k : Nat} (hk : k ≤ n) (w : World) :
    (Instr.slice t (.slice a n c) (some (.int .i64 (k : Int))) none none).run P w = .ok (.slice (if c = k then a else a.map (·.add (k * i.size))) (n - k) (c - k)) w := by
  have h1 : (0 : Int) ≤ k ∧ (k : Int) ≤ n := by omega
  simp [Instr.slice, Instr.sliceBounds, Instr.sliceBound, asIntOf, run_underlying ht, sizeOf, typeInfo, hi, hk]

theorem wpList_append_w {w : World} {ops : Array Oper} {rest : List Oper} {o : Oper} {a : Act} {Q : Exit → Act → World → Prop} (hgd : o.guard = none) (s x : Operand) (t : TypeId)
    (ho : o.op = .call { callee := .builtin .append, args := #[s, x], argTypes := #[t, t] })
    (base : Nat) (e : TypeId) (i : TypeInfo) (z : Value) (size bytes : Nat) (ht : P.underlying t = some (.slice e)) (hi : P.info? e = some i) (hz : i.zero = some z)
    (hsize : i.size = size) (hby : i.bytes = bytes) (hzs : z.cells.size = size) (hsz : 0 < size)
    (v : Value) (n : Nat) (xs : List Value) (hs : a.eval s = v) (hown : w.ownsRow base e size v n xs)
    (xa : Option Addr) (m c : Nat) (news : List Value) (hx : a.eval x = .slice xa m c) (hl : news.length = m * size) (hsrc : m = 0 ∨ ∃ ad, xa = some ad ∧ ∀ j u, news[j]? = some u → w.cell? (ad.add j) = some u) (h1 : ∀ u ∈ news, u.oneCell' = true)
    (h63 : n + m ≤ maxLen) (hbytes : (n + m) * bytes ≤ 140737488355328) (hbase : base ≤ w.heap.size)
    (h : ∀ v' w', w'.ownsRow base e size v' (n + m) (xs ++ news) → w.grownBy w' v.ownBlock → (v'.ownBlock = v.ownBlock ∨ v'.ownBlock = some w.heap.size) → wpList P ops Q rest (a.put o.dst v') w') : wpList P ops Q (o :: rest) a w :=
  wpList_plain hgd fun K hK => by
    obtain ⟨v', w', hr, h2, h3, h4⟩ := run_append_w (P := P) w t o.type base e i z size bytes ht hi hz hsize hby hzs hsz v n xs hown xa m c news hl hsrc h1 h63 hbytes hbase
    unfold Oper.wp execOp
    simp only [ho, resolve, invoke, builtin, Sem.run_bind, Sem.run_pure, Result.andThen_ok, List.map_toArray, List.map_cons, List.map_nil, hs, hx, hr]
    exact hK _ _ (h v' w' h2 h3 h4)
end

end Go.Proofs.YtnjpjhlodamanaaGreatDoor
