/-
  Package code: how many bytes a program has, as a sum that grows (plain).
  Conditions: as each states.
-/
import Derived.Test.YtabdbciebhmflaaDoorCoLa
namespace Go.Proofs.YtabdbciebhmflaaDoor
set_option maxRecDepth 100000

/-- The sum of g over the first k of l. -/
def lenTo {α : Type} (g : α → Nat) (l : List α) (k : Nat) : Nat := ((l.take k).map g).sum
theorem lenTo_0 {α : Type} (g : α → Nat) (l : List α) : lenTo g l 0 = 0 := by unfold lenTo; simp
theorem lenTo_s {α : Type} (g : α → Nat) (l : List α) {k : Nat} (h : k < l.length) : lenTo g l (k + 1) = lenTo g l k + g l[k] := by
  unfold lenTo
  rw [List.take_succ_eq_append_getElem h, List.map_append, List.sum_append]
  simp
theorem lenTo_at {α : Type} (g : α → Nat) (l : List α) {k : Nat} {x : α} (h : l[k]? = some x) : lenTo g l (k + 1) = lenTo g l k + g x := by
  obtain ⟨hk, e⟩ := List.getElem?_eq_some_iff.1 h
  rw [lenTo_s g l hk, e]
theorem lenTo_le {α : Type} (g : α → Nat) (l : List α) : ∀ (d k : Nat), k + d = l.length → lenTo g l k ≤ lenTo g l l.length
  | 0, k, h => by rw [← h]; exact Nat.le_refl _
  | d + 1, k, h => by
    have := lenTo_le g l d (k + 1) (by omega)
    rw [lenTo_s g l (by omega)] at this
    omega
theorem lenTo_most {α : Type} (g : α → Nat) (l : List α) {k : Nat} (h : k ≤ l.length) : lenTo g l k ≤ lenTo g l l.length := lenTo_le g l (l.length - k) k (by omega)
theorem lenTo_flat {α : Type} (f : α → List Int) (l : List α) : (l.flatMap f).length = lenTo (fun x => (f x).length) l l.length := by
  unfold lenTo
  rw [List.take_length, List.length_flatMap]

def insN (p : PIns) : Nat := 1 + aW p.1 + bW p.1
def fnN (f : PFn) : Nat := 4 + lenTo insN f.2.2 f.2.2.length
def strN (s : ByteArray) : Nat := 1 + s.size
def fmN (m : PFm) : Nat := 4 + m.2.2.2.length
theorem insN_eq (p : PIns) : (encIns p).length = insN p := by
  unfold encIns insN
  simp only [List.length_append, bytesOf_length]
theorem fnN_eq (f : PFn) : (encFn f).length = fnN f := by
  unfold encFn fnN
  simp only [List.length_append, bytesOf_length]
  rw [lenTo_flat, show (fun x => (encIns x).length) = insN from funext insN_eq]
theorem strN_eq (s : ByteArray) : (encStr s).length = strN s := by
  unfold encStr strN strI
  simp only [List.length_append, bytesOf_length, List.length_map, Array.length_toList]
  rfl
theorem fmN_eq (m : PFm) : (encFm m).length = fmN m := by
  unfold encFm fmN
  simp only [List.length_append, bytesOf_length]
  rw [lenTo_flat]
  have h : ∀ l : List Int, lenTo (fun x => (bytesOf x 1).length) l l.length = l.length := by
    intro l
    unfold lenTo
    rw [List.take_length]
    induction l with
    | nil => rfl
    | cons x l ih => simp only [List.map_cons, List.sum_cons, bytesOf_length, List.length_cons] at ih ⊢; omega
  rw [h]
/-- A program's bytes: three, and what its functions, texts and forms have. -/
theorem encPr_sum (P : PPr) : (encPr P).length = 3 + lenTo fnN P.1 P.1.length + lenTo strN P.2.1 P.2.1.length + lenTo fmN P.2.2 P.2.2.length := by
  unfold encPr headI
  simp only [List.length_append, bytesOf_length]
  rw [lenTo_flat, lenTo_flat, lenTo_flat, show (fun x => (encFn x).length) = fnN from funext fnN_eq, show (fun x => (encStr x).length) = strN from funext strN_eq, show (fun x => (encFm x).length) = fmN from funext fmN_eq]
theorem encPr_head (P : PPr) (h1 : P.1.length < 256) (h2 : P.2.1.length < 256) (h3 : P.2.2.length < 256) : (encPr P)[0]? = some (P.1.length : Int) ∧ (encPr P)[1]? = some (P.2.1.length : Int) ∧ (encPr P)[2]? = some (P.2.2.length : Int) := by
  have b : ∀ n : Nat, n < 256 → bytesOf (n : Int) 1 = [(n : Int)] := by
    intro n hn
    simp only [bytesOf, byteAt]
    congr 1
    omega
  unfold encPr headI
  rw [b _ h1, b _ h2, b _ h3]
  exact ⟨rfl, rfl, rfl⟩

/-- How many bytes an instruction has, by its Op. -/
theorem insN_cases {o a b : Int} (h : insG (o, a, b) = true) :
    ((o = 0 ∨ o = 21) ∧ insN (o, a, b) = 9) ∨ ((o = 6 ∨ o = 19 ∨ o = 36) ∧ insN (o, a, b) = 4) ∨
    ((o = 1 ∨ o = 2 ∨ o = 3 ∨ o = 4 ∨ o = 10 ∨ o = 11 ∨ o = 20 ∨ o = 22 ∨ o = 33) ∧ insN (o, a, b) = 3) ∨
    ((¬ o = 0 ∧ ¬ o = 21 ∧ ¬ o = 6 ∧ ¬ o = 19 ∧ ¬ o = 36 ∧ ¬ o = 1 ∧ ¬ o = 2 ∧ ¬ o = 3 ∧ ¬ o = 4 ∧ ¬ o = 10 ∧ ¬ o = 11 ∧ ¬ o = 20 ∧ ¬ o = 22 ∧ ¬ o = 33) ∧ insN (o, a, b) = 1) := by
  have hb : 0 ≤ o ∧ o < 38 := by
    by_cases h' : 0 ≤ o ∧ o < 38
    · exact h'
    · have := (good_out o a b h').1
      unfold insG at h
      rw [this] at h; cases h
  obtain ⟨k, rfl⟩ : ∃ k : Nat, o = k := ⟨o.toNat, by omega⟩
  have hk : k < 38 := by omega
  have q9 : ∀ k : Nat, k < 38 → k ∈ [0, 21] → 1 + aW k + bW k = 9 := by decide +kernel
  have q4 : ∀ k : Nat, k < 38 → k ∈ [6, 19, 36] → 1 + aW k + bW k = 4 := by decide +kernel
  have q3 : ∀ k : Nat, k < 38 → k ∈ [1, 2, 3, 4, 10, 11, 20, 22, 33] → 1 + aW k + bW k = 3 := by decide +kernel
  have q1 : ∀ k : Nat, k < 38 → ¬ k ∈ [0, 21, 6, 19, 36, 1, 2, 3, 4, 10, 11, 20, 22, 33] → 1 + aW k + bW k = 1 := by decide +kernel
  have q9 := q9 k hk
  have q4 := q4 k hk
  have q3 := q3 k hk
  have q1 := q1 k hk
  simp only [List.mem_cons, List.not_mem_nil, or_false] at q9 q4 q3 q1
  unfold insN
  simp only
  omega
end Go.Proofs.YtabdbciebhmflaaDoor
