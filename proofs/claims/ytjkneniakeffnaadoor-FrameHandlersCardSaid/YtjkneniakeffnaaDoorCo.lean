/-
  Programs as plain data; which may be; their bytes; the program of bytes (a plain reader).
  Conditions: as each states.
-/
import Derived.Test.YtjkneniakeffnaaDoorOpA
namespace Go.Proofs.YtjkneniakeffnaaDoor
open Go.ChangeShapes Go.WideShapes Go.ChangeAt Go.RowKit
set_option linter.unusedVariables false
set_option linter.unusedSimpArgs false
set_option maxRecDepth 100000

/-- An instruction: op, A, B. A function: locals, captured, code. A form: kind, A, B, constructors. A program: functions, texts, forms. -/
abbrev PIns := Int × Int × Int
abbrev PFn := Int × Int × List PIns
abbrev PFm := Int × Int × Int × List Int
abbrev PPr := List PFn × List ByteArray × List PFm

/-! ## Each of a list, by its place -/
def allI {α : Type} (g : Nat → α → Bool) : Nat → List α → Bool
  | _, [] => true
  | k, x :: r => g k x && allI g (k + 1) r
theorem allI_iff {α : Type} (g : Nat → α → Bool) : ∀ (l : List α) (k : Nat), allI g k l = true ↔ ∀ j x, l[j]? = some x → g (k + j) x = true
  | [], k => by simp [allI]
  | x :: r, k => by
    unfold allI
    rw [Bool.and_eq_true, allI_iff g r (k + 1)]
    constructor
    · rintro ⟨h0, h⟩ j y hj
      cases j with
      | zero => simp at hj; subst hj; exact h0
      | succ j => have := h j y (by simpa using hj); rw [show k + (j + 1) = k + 1 + j by omega]; exact this
    · intro h
      refine ⟨h 0 x rfl, fun j y hj => ?_⟩
      have := h (j + 1) y (by simpa using hj)
      rw [show k + 1 + j = k + (j + 1) by omega]; exact this
theorem allI_true {α : Type} {g : Nat → α → Bool} {l : List α} (h : ∀ j x, j < l.length → l[j]? = some x → g j x = true) : allI g 0 l = true :=
  (allI_iff g l 0).2 fun j x hj => by rw [Nat.zero_add]; exact h j x (List.getElem?_eq_some_iff.1 hj).1 hj
theorem allI_false {α : Type} {g : Nat → α → Bool} {l : List α} {j : Nat} {x : α} (hj : l[j]? = some x) (h : g j x = false) : allI g 0 l = false := by
  cases e : allI g 0 l
  · rfl
  · have := (allI_iff g l 0).1 e j x hj
    rw [Nat.zero_add, h] at this
    cases this
theorem allI_at {α : Type} {g : Nat → α → Bool} {l : List α} (h : allI g 0 l = true) {j : Nat} {x : α} (hj : l[j]? = some x) : g j x = true := by
  have := (allI_iff g l 0).1 h j x hj
  rwa [Nat.zero_add] at this

/-! ## Which may be -/
def belowB (n m : Int) : Bool := decide (0 ≤ n ∧ n < m)
def insG (p : PIns) : Bool := opGood p.1 p.2.1 p.2.2
def fnG (f : PFn) : Bool := belowB f.1 61 && (belowB f.2.1 31 && (decide (0 < f.2.2.length ∧ f.2.2.length ≤ 600) && allI (fun _ p => insG p) 0 f.2.2))
def fnK (k : Nat) (f : PFn) : Bool := (if k = 0 then decide (f.2.1 = 0) else decide (f.1 ≠ 0)) && fnG f
def fnsG (l : List PFn) : Bool := decide (0 < l.length) && allI fnK 0 l
def strG (s : ByteArray) : Bool := decide (s.size ≤ 60)
def strsG (l : List ByteArray) : Bool := allI (fun _ s => strG s) 0 l
def conG (n : Nat) (c : Int) : Bool := decide (c = -1) || belowB c n
def consG (n : Nat) (l : List Int) : Bool := decide (0 < l.length ∧ l.length ≤ 20) && allI (fun _ c => conG n c) 0 l
def fmG (n : Nat) (m : PFm) : Bool :=
  if m.1 = 1 ∨ m.1 = 2 ∨ m.1 = 3 ∨ m.1 = 4 then belowB m.2.1 1 && (belowB m.2.2.1 1 && decide (m.2.2.2.length = 0))
  else if m.1 = 5 then belowB m.2.1 n && (belowB m.2.2.1 n && decide (m.2.2.2.length = 0))
  else if m.1 = 6 then belowB m.2.1 n && (belowB m.2.2.1 1 && decide (m.2.2.2.length = 0))
  else if m.1 = 7 then decide (m.2.1 = 0) && (decide (m.2.2.1 = 0) && consG n m.2.2.2)
  else false
def fmsG (l : List PFm) : Bool := allI (fun _ m => fmG l.length m) 0 l
def prG (P : PPr) : Bool := decide (P.1.length ≤ 60 ∧ P.2.1.length ≤ 40 ∧ P.2.2.length ≤ 40) && (fnsG P.1 && (strsG P.2.1 && fmsG P.2.2))

/-! ## Bytes -/
def aT : List Nat := [8, 2, 2, 2, 2, 0, 2, 0, 0, 0, 2, 2, 0, 0, 0, 0, 0, 0, 0, 2, 2, 8, 2, 0, 0, 0, 0, 0, 0, 0, 0, 0, 0, 2, 0, 0, 2, 0]
def bT : List Nat := [0, 0, 0, 0, 0, 0, 1, 0, 0, 0, 0, 0, 0, 0, 0, 0, 0, 0, 0, 1, 0, 0, 0, 0, 0, 0, 0, 0, 0, 0, 0, 0, 0, 0, 0, 0, 1, 0]
def aW (o : Int) : Nat := aT.getD o.toNat 0
def bW (o : Int) : Nat := bT.getD o.toNat 0

def byteC (n : Int) (i : Nat) : Int := (n / 256 ^ i) % 256
def bytesOf (n : Int) : Nat → List Int
  | 0 => []
  | w + 1 => byteC n w :: bytesOf n w
theorem bytesOf_length (n : Int) : ∀ w, (bytesOf n w).length = w
  | 0 => rfl
  | w + 1 => by simp [bytesOf, bytesOf_length n w]
theorem byteAt_bd (n : Int) (i : Nat) : 0 ≤ byteC n i ∧ byteC n i < 256 := by unfold byteC; omega
theorem bytesOf_bd (n : Int) : ∀ w, ∀ z ∈ bytesOf n w, 0 ≤ z ∧ z < 256
  | 0, z, hz => by cases hz
  | w + 1, z, hz => by
    rcases List.mem_cons.1 hz with rfl | hz
    · exact byteAt_bd n w
    · exact bytesOf_bd n w z hz

def encIns (p : PIns) : List Int := bytesOf p.1 1 ++ bytesOf p.2.1 (aW p.1) ++ bytesOf p.2.2 (bW p.1)
def encFn (f : PFn) : List Int := bytesOf f.1 1 ++ bytesOf f.2.1 1 ++ bytesOf f.2.2.length 2 ++ f.2.2.flatMap encIns
def strI (s : ByteArray) : List Int := s.data.toList.map fun c => (c.toNat : Int)
def encStr (s : ByteArray) : List Int := bytesOf s.size 1 ++ strI s
def encFm (m : PFm) : List Int := bytesOf m.1 1 ++ bytesOf m.2.1 1 ++ bytesOf m.2.2.1 1 ++ bytesOf m.2.2.2.length 1 ++ m.2.2.2.flatMap (bytesOf · 1)
def headI (P : PPr) : List Int := bytesOf P.1.length 1 ++ bytesOf P.2.1.length 1 ++ bytesOf P.2.2.length 1
def encPr (P : PPr) : List Int := headI P ++ P.1.flatMap encFn ++ P.2.1.flatMap encStr ++ P.2.2.flatMap encFm

/-! ## A plain reader: bytes that are left, and whether it is lost -/
abbrev Rd := List Int × Bool
def numOf (l : List Int) : Int := l.foldl (fun n b => IntKind.i64.wrap (n * 256 + b)) 0
def rdNum (w : Nat) (s : Rd) : Int × Rd := if w ≤ s.1.length then (numOf (s.1.take w), (s.1.drop w, s.2)) else (0, (s.1, true))
def rdCnt (w : Nat) (most : Int) (s : Rd) : Int × Rd := if most < (rdNum w s).1 then (0, ((rdNum w s).2.1, true)) else rdNum w s
def rdList {α : Type} (one : Rd → α × Rd) : Nat → Rd → List α × Rd
  | 0, s => ([], s)
  | n + 1, s => if s.2 = true then ([], s) else ((one s).1 :: (rdList one n (one s).2).1, (rdList one n (one s).2).2)
def rdIns (s : Rd) : PIns × Rd :=
  if 38 ≤ (rdNum 1 s).1 then ((0, 0, 0), ((rdNum 1 s).2.1, true))
  else (((rdNum 1 s).1, (rdNum (aW (rdNum 1 s).1) (rdNum 1 s).2).1, (rdNum (bW (rdNum 1 s).1) (rdNum (aW (rdNum 1 s).1) (rdNum 1 s).2).2).1), (rdNum (bW (rdNum 1 s).1) (rdNum (aW (rdNum 1 s).1) (rdNum 1 s).2).2).2)
def rdFn (s : Rd) : PFn × Rd :=
  let a := rdNum 1 s
  let b := rdNum 1 a.2
  let n := rdCnt 2 600 b.2
  let l := rdList rdIns n.1.toNat n.2
  ((a.1, b.1, l.1), l.2)
def byI (l : List Int) : ByteArray := ⟨⟨l.map fun z => UInt8.ofNat z.toNat⟩⟩
def rdTake (n : Nat) (s : Rd) : List Int × Rd := if n ≤ s.1.length then (s.1.take n, (s.1.drop n, s.2)) else ([], (s.1, true))
def rdStr (s : Rd) : ByteArray × Rd :=
  let n := rdNum 1 s
  let l := rdTake n.1.toNat n.2
  (byI l.1, l.2)
def rdCon (s : Rd) : Int × Rd := (if (rdNum 1 s).1 = 255 then -1 else (rdNum 1 s).1, (rdNum 1 s).2)
def rdFm (s : Rd) : PFm × Rd :=
  let k := rdNum 1 s
  let a := rdNum 1 k.2
  let b := rdNum 1 a.2
  let n := rdCnt 1 20 b.2
  let l := rdList rdCon n.1.toNat n.2
  ((k.1, a.1, b.1, l.1), l.2)
def rdPr (s : Rd) : PPr × Rd :=
  let nf := rdCnt 1 60 s
  let ns := rdCnt 1 40 nf.2
  let nm := rdCnt 1 40 ns.2
  let fs := rdList rdFn nf.1.toNat nm.2
  let ss := rdList rdStr ns.1.toNat fs.2
  let ms := rdList rdFm nm.1.toNat ss.2
  ((fs.1, ss.1, ms.1), ms.2)
/-- Whether there is a program, and which. -/
def decB (l : List Int) : Bool := !(rdPr (l, false)).2.2 && (decide ((rdPr (l, false)).2.1 = []) && prG (rdPr (l, false)).1)
def decPr (l : List Int) : PPr := if decB l = true then (rdPr (l, false)).1 else ([], [], [])
end Go.Proofs.YtjkneniakeffnaaDoor
