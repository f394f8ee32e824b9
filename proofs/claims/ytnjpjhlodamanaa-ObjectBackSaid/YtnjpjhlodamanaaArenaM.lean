/-
  The arena as plain data: words, and regions by their places ('Ar'); what each call answers ('find', 'cut', 'free', 'set').
  Conditions: none.
-/
import Derived.Test.YtnjpjhlodamanaaMem
namespace Go.Proofs.Ytnjpjhlodamanaa
open Go.ChangeShapes Go.WideShapes Go.ChangeAt Go.RowKit
set_option linter.unusedVariables false
set_option linter.unusedSimpArgs false

structure Ar where
  ws : List Int
  rs : List (Nat × Nat)

/-- Regions one behind the other, from lo on, within hi. -/
def Chain : Nat → List (Nat × Nat) → Nat → Prop
  | lo, [], hi => lo ≤ hi
  | lo, r :: rs, hi => lo ≤ r.1 ∧ 1 ≤ r.2 ∧ Chain (r.1 + r.2) rs hi

structure Ar.Ok (A : Ar) : Prop where
  chain : Chain 0 A.rs A.ws.length
  pos : 1 ≤ A.ws.length
  max : A.ws.length ≤ 20000
  word : ∀ x ∈ A.ws, (Lit.int .u64 x).wf = true

def findR : List (Nat × Nat) → Int → Option Nat
  | [], _ => none
  | r :: rs, k => if (r.1 : Int) = k then some r.2 else findR rs k

def Ar.find (A : Ar) (k : Int) : Option Nat := findR A.rs k
def Ar.slot (A : Ar) (bw : Nat) (k : Int) : Option Value := (A.find k).map fun n => .slice (some ⟨bw, k.toNat, none⟩) n n

/-- The least place, and how many regions lie ahead. -/
def roomAt (n : Int) : List (Nat × Nat) → Nat → Nat × Nat
  | [], lo => (lo, 0)
  | r :: rs, lo => if n ≤ (r.1 : Int) - lo then (lo, 0) else ((roomAt n rs (r.1 + r.2)).1, (roomAt n rs (r.1 + r.2)).2 + 1)

theorem Chain.mono {hi : Nat} : ∀ {rs : List (Nat × Nat)} {lo lo' : Nat}, Chain lo rs hi → lo' ≤ lo → Chain lo' rs hi
  | [], _, _, h, hl => Nat.le_trans hl h
  | _ :: _, _, _, h, hl => ⟨Nat.le_trans hl h.1, h.2⟩
theorem Chain.le {hi : Nat} : ∀ {rs : List (Nat × Nat)} {lo : Nat}, Chain lo rs hi → lo ≤ hi
  | [], _, h => h
  | r :: rs, lo, ⟨h1, h2, h3⟩ => by have := Chain.le h3; omega

theorem findR_bound {hi : Nat} : ∀ {rs : List (Nat × Nat)} {lo : Nat} {k : Int} {n : Nat}, Chain lo rs hi → findR rs k = some n → (lo : Int) ≤ k ∧ 1 ≤ n ∧ k + n ≤ hi
  | [], _, _, _, _, h => by cases h
  | r :: rs, lo, k, n, ⟨h1, h2, h3⟩, h => by
    unfold findR at h
    split at h
    · rename_i hk
      cases h
      have := Chain.le h3
      omega
    · have := findR_bound h3 h
      omega

theorem Ar.Ok.bound {A : Ar} (h : A.Ok) {k : Int} {n : Nat} (hf : A.find k = some n) : 0 ≤ k ∧ 1 ≤ n ∧ k + n ≤ A.ws.length := by
  have := findR_bound h.chain hf
  omega

theorem Chain.len {hi : Nat} : ∀ {rs : List (Nat × Nat)} {lo : Nat}, Chain lo rs hi → lo + rs.length ≤ hi
  | [], lo, h => by have h' : lo ≤ hi := h; simpa using h'
  | r :: rs, lo, ⟨h1, h2, h3⟩ => by have := Chain.len h3; simp only [List.length_cons]; omega

theorem Chain.get {hi : Nat} : ∀ {rs : List (Nat × Nat)} {lo : Nat}, Chain lo rs hi → ∀ (i : Nat) (h : i < rs.length), lo ≤ rs[i].1 ∧ 1 ≤ rs[i].2 ∧ rs[i].1 + rs[i].2 ≤ hi ∧ findR rs (rs[i].1 : Int) = some rs[i].2
  | [], _, _, i, hi => by simp at hi
  | r :: rs, lo, ⟨h1, h2, h3⟩, 0, _ => ⟨h1, h2, Chain.le h3, by simp [findR]⟩
  | r :: rs, lo, ⟨h1, h2, h3⟩, i + 1, hl => by
    obtain ⟨a, b, c, d⟩ := Chain.get h3 i (by simpa using hl)
    simp only [List.getElem_cons_succ]
    refine ⟨by omega, b, c, ?_⟩
    unfold findR
    rw [if_neg (by omega), d]

/-! cut -/
def Ar.at (A : Ar) (n : Int) : Nat := (roomAt n A.rs 0).1
def Ar.idx (A : Ar) (n : Int) : Nat := (roomAt n A.rs 0).2
def Ar.has (A : Ar) (n : Int) : Bool := decide (1 ≤ n ∧ n ≤ (A.ws.length : Int) - (A.at n : Int))
def Ar.cutted (A : Ar) (n : Int) : Ar :=
  { ws := A.ws.take (A.at n) ++ List.replicate n.toNat 0 ++ A.ws.drop (A.at n + n.toNat), rs := A.rs.take (A.idx n) ++ (A.at n, n.toNat) :: A.rs.drop (A.idx n) }
def Ar.cut (A : Ar) (n : Int) : Ar := if A.has n then A.cutted n else A

theorem roomAt_spec (n : Int) (hn : 1 ≤ n) {hi : Nat} : ∀ {rs : List (Nat × Nat)} {lo : Nat}, Chain lo rs hi →
    lo ≤ (roomAt n rs lo).1 ∧ (roomAt n rs lo).1 ≤ hi ∧ (roomAt n rs lo).2 ≤ rs.length ∧
    (n ≤ (hi : Int) - (roomAt n rs lo).1 → Chain lo (rs.take (roomAt n rs lo).2 ++ ((roomAt n rs lo).1, n.toNat) :: rs.drop (roomAt n rs lo).2) hi ∧
      findR rs ((roomAt n rs lo).1 : Int) = none ∧
      ∀ k, findR (rs.take (roomAt n rs lo).2 ++ ((roomAt n rs lo).1, n.toNat) :: rs.drop (roomAt n rs lo).2) k = if k = (roomAt n rs lo).1 then some n.toNat else findR rs k)
  | [], lo, h => by
    simp only [roomAt]
    refine ⟨Nat.le_refl _, h, Nat.zero_le _, fun hr => ⟨⟨Nat.le_refl _, by show 1 ≤ n.toNat; omega, by show lo + n.toNat ≤ hi; omega⟩, rfl, fun k => ?_⟩⟩
    simp only [List.take_nil, List.drop_nil, List.nil_append, findR]
    by_cases hk : k = lo
    · simp [hk]
    · simp [hk, Ne.symm hk]
  | r :: rs, lo, ⟨h1, h2, h3⟩ => by
    by_cases hc : n ≤ (r.1 : Int) - lo
    · have e : roomAt n (r :: rs) lo = (lo, 0) := by simp [roomAt, hc]
      rw [e]
      refine ⟨Nat.le_refl _, by have := Chain.le h3; show lo ≤ hi; omega, Nat.zero_le _, fun hr => ⟨⟨Nat.le_refl _, by show 1 ≤ n.toNat; omega, by show lo + n.toNat ≤ r.1; omega, h2, h3⟩, ?_, fun k => ?_⟩⟩
      · cases hf : findR (r :: rs) (lo : Int) with
        | none => rfl
        | some m =>
          have := findR_bound (rs := r :: rs) (lo := r.1) (hi := hi) ⟨Nat.le_refl _, h2, h3⟩ hf
          obtain ⟨q1, q2, q3⟩ := this
          omega
      · simp only [List.take_zero, List.drop_zero, List.nil_append]
        rw [findR]
        by_cases hk : k = (lo : Int)
        · rw [if_pos hk, if_pos hk.symm]
        · rw [if_neg hk, if_neg (Ne.symm hk)]
    · have e : roomAt n (r :: rs) lo = ((roomAt n rs (r.1 + r.2)).1, (roomAt n rs (r.1 + r.2)).2 + 1) := by simp [roomAt, hc]
      obtain ⟨a, b, c, d⟩ := roomAt_spec n hn h3
      rw [e]
      refine ⟨by show lo ≤ (roomAt n rs (r.1 + r.2)).1; omega, b, by simpa using c, fun hr => ?_⟩
      obtain ⟨d1, d2, d3⟩ := d hr
      refine ⟨⟨h1, h2, d1⟩, ?_, fun k => ?_⟩
      · show findR (r :: rs) ((roomAt n rs (r.1 + r.2)).1 : Int) = none
        rw [findR, if_neg (by omega)]
        exact d2
      · show findR (r :: (rs.take (roomAt n rs (r.1 + r.2)).2 ++ ((roomAt n rs (r.1 + r.2)).1, n.toNat) :: rs.drop (roomAt n rs (r.1 + r.2)).2)) k = _
        rw [findR, d3, findR]
        by_cases hk : (r.1 : Int) = k
        · rw [if_pos hk, if_pos hk, if_neg (by show ¬ k = ((roomAt n rs (r.1 + r.2)).1 : Int); omega)]
        · rw [if_neg hk, if_neg hk]

theorem Ar.Ok.at_le {A : Ar} (h : A.Ok) {n : Int} (hn : 1 ≤ n) : A.at n ≤ A.ws.length ∧ A.idx n ≤ A.rs.length := by
  have := roomAt_spec n hn h.chain
  exact ⟨this.2.1, this.2.2.1⟩

theorem Ar.Ok.cutted {A : Ar} (h : A.Ok) {n : Int} (hh : A.has n = true) : (A.cutted n).Ok ∧ A.find (A.at n) = none ∧ ∀ k, (A.cutted n).find k = if k = A.at n then some n.toNat else A.find k := by
  obtain ⟨h1, h2⟩ : 1 ≤ n ∧ n ≤ (A.ws.length : Int) - (A.at n : Int) := by simpa [Ar.has] using hh
  obtain ⟨a, b, c, d⟩ := roomAt_spec n h1 h.chain
  obtain ⟨d1, d2, d3⟩ := d h2
  have hl : (A.cutted n).ws.length = A.ws.length := by
    unfold Ar.cutted
    simp only [List.length_append, List.length_take, List.length_replicate, List.length_drop]
    omega
  refine ⟨⟨by rw [hl]; exact d1, by rw [hl]; exact h.pos, by rw [hl]; exact h.max, ?_⟩, d2, d3⟩
  intro x hx
  simp only [Ar.cutted, List.mem_append, List.mem_replicate] at hx
  rcases hx with (hx | ⟨_, rfl⟩) | hx
  · exact h.word x (List.mem_of_mem_take hx)
  · decide
  · exact h.word x (List.mem_of_mem_drop hx)

theorem Ar.Ok.cut {A : Ar} (h : A.Ok) (n : Int) : (A.cut n).Ok := by
  unfold Ar.cut
  split
  · rename_i hh; exact (h.cutted hh).1
  · exact h

theorem Ar.length_cutted {A : Ar} {n : Int} (hh : A.has n = true) : (A.cutted n).ws.length = A.ws.length := by
  obtain ⟨h1, h2⟩ : 1 ≤ n ∧ n ≤ (A.ws.length : Int) - (A.at n : Int) := by simpa [Ar.has] using hh
  unfold Ar.cutted
  simp only [List.length_append, List.length_take, List.length_replicate, List.length_drop]
  omega

/-! free -/
def dropR : List (Nat × Nat) → Int → List (Nat × Nat)
  | [], _ => []
  | r :: rs, k => if (r.1 : Int) = k then rs else r :: dropR rs k
def Ar.free (A : Ar) (k : Int) : Ar := { A with rs := dropR A.rs k }
def Ar.there (A : Ar) (k : Int) : Bool := (A.find k).isSome

theorem dropR_spec {hi : Nat} : ∀ {rs : List (Nat × Nat)} {lo : Nat} (k : Int), Chain lo rs hi → Chain lo (dropR rs k) hi ∧ ∀ j, findR (dropR rs k) j = if j = k then none else findR rs j
  | [], lo, k, h => ⟨h, fun j => by simp [dropR, findR]⟩
  | r :: rs, lo, k, ⟨h1, h2, h3⟩ => by
    unfold dropR
    by_cases hk : (r.1 : Int) = k
    · rw [if_pos hk]
      refine ⟨h3.mono (by omega), fun j => ?_⟩
      rw [findR]
      by_cases hj : j = k
      · subst hj
        rw [if_pos rfl]
        cases hf : findR rs j with
        | none => rfl
        | some m => have := findR_bound h3 hf; omega
      · rw [if_neg hj, if_neg (by omega)]
    · rw [if_neg hk]
      obtain ⟨a, b⟩ := dropR_spec k h3
      refine ⟨⟨h1, h2, a⟩, fun j => ?_⟩
      rw [findR, findR, b]
      by_cases hj : j = k
      · subst hj; simp [hk]
      · simp [hj]

theorem Ar.Ok.free {A : Ar} (h : A.Ok) (k : Int) : (A.free k).Ok ∧ ∀ j, (A.free k).find j = if j = k then none else A.find j :=
  ⟨⟨(dropR_spec k h.chain).1, h.pos, h.max, h.word⟩, (dropR_spec k h.chain).2⟩

/-- Where the region stands in its row. -/
theorem dropR_at {hi : Nat} : ∀ {rs : List (Nat × Nat)} {lo : Nat} {k : Int} {n : Nat}, Chain lo rs hi → findR rs k = some n →
    ∃ i, i < rs.length ∧ ((rs.map fun r => (r.1 : Int)).countP (· < k)) = i ∧ dropR rs k = rs.take i ++ rs.drop (i + 1)
  | [], _, _, _, _, h => by cases h
  | r :: rs, lo, k, n, ⟨h1, h2, h3⟩, h => by
    unfold findR at h
    split at h
    · rename_i hk
      refine ⟨0, by simp, ?_, by simp [dropR, hk]⟩
      have : ∀ {rs : List (Nat × Nat)} {lo : Nat}, Chain lo rs hi → k ≤ lo → ((rs.map fun r => (r.1 : Int)).countP (· < k)) = 0 := by
        intro rs
        induction rs with
        | nil => intros; rfl
        | cons x xs ih =>
          intro lo hc hl
          have := ih hc.2.2 (by have := hc.1; omega)
          simp only [List.map_cons]
          rw [List.countP_cons_of_neg (by simp; have := hc.1; omega)]
          exact this
      simp only [List.map_cons]
      rw [List.countP_cons_of_neg (by simp; omega)]
      exact this h3 (by omega)
    · rename_i hk
      obtain ⟨i, a, b, c⟩ := dropR_at h3 h
      have hb := findR_bound h3 h
      refine ⟨i + 1, by simpa using a, ?_, by simp [dropR, hk, c]⟩
      simp only [List.map_cons]
      rw [List.countP_cons_of_pos (by simp; omega), b]

theorem Chain.sorted {hi : Nat} : ∀ {rs : List (Nat × Nat)} {lo : Nat}, Chain lo rs hi → (rs.map fun r => (r.1 : Int)).Pairwise (· ≤ ·) ∧ ∀ x ∈ rs.map (fun r => (r.1 : Int)), (lo : Int) ≤ x
  | [], _, _ => ⟨List.Pairwise.nil, by simp⟩
  | r :: rs, lo, ⟨h1, h2, h3⟩ => by
    obtain ⟨a, b⟩ := Chain.sorted h3
    refine ⟨List.pairwise_cons.2 ⟨fun x hx => by have := b x hx; show (r.1 : Int) ≤ x; omega, a⟩, ?_⟩
    intro x hx
    simp only [List.map_cons, List.mem_cons] at hx
    rcases hx with rfl | hx
    · show (lo : Int) ≤ (r.1 : Int); omega
    · have := b x hx; omega

/-! get, set -/
def Ar.word? (A : Ar) (k i : Int) : Option Int := match A.find k with
  | some n => if 0 ≤ i ∧ i < n then A.ws[(k + i).toNat]? else none
  | none => none
def Ar.inB (A : Ar) (k i : Int) : Bool := match A.find k with
  | some n => decide (0 ≤ i ∧ i < n)
  | none => false
def Ar.set (A : Ar) (k i : Int) (x : Int) : Ar := if A.inB k i then { A with ws := A.ws.set (k + i).toNat x } else A
def Ar.getW (A : Ar) (k i : Int) : Int := if A.inB k i then A.ws.getD (k + i).toNat 0 else 0
def Ar.region (A : Ar) (k : Int) : List Int := match A.find k with
  | some n => (A.ws.drop k.toNat).take n
  | none => []

theorem Ar.Ok.set {A : Ar} (h : A.Ok) (k i : Int) (x : Int) (hx : (Lit.int .u64 x).wf = true) : (A.set k i x).Ok := by
  unfold Ar.set
  split
  · refine ⟨by simpa using h.chain, by simpa using h.pos, by simpa using h.max, fun y hy => ?_⟩
    rcases List.mem_or_eq_of_mem_set hy with hy | rfl
    · exact h.word y hy
    · exact hx
  · exact h
theorem Ar.find_set (A : Ar) (k i x j : Int) : (A.set k i x).find j = A.find j := by
  unfold Ar.set
  split <;> rfl
theorem Ar.rs_set (A : Ar) (k i x : Int) : (A.set k i x).rs = A.rs := by
  unfold Ar.set
  split <;> rfl

end Go.Proofs.Ytnjpjhlodamanaa
