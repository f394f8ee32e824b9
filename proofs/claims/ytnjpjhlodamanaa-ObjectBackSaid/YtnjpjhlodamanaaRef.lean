/-
  The contracts of the document's arena (package stockpotref02), of an arena that lies in memory as 'RefIn' says: words, and regions as a row of pairs.
  Conditions: as each states.
-/
import Derived.Test.YtnjpjhlodamanaaHeld
import Derived.Deep.RegionHeld3
import Derived.Deep.AppendLies
namespace Go.Proofs.Ytnjpjhlodamanaa
open Go.ChangeShapes Go.WideShapes Go.ChangeAt Go.RowKit
set_option linter.unusedVariables false
set_option linter.unusedSimpArgs false
set_option maxRecDepth 100000

structure RefIn (w : World) (p bw : Nat) (rv : Value) (A : Ar) : Prop where
  root : rowAt w p 90 [.slice (some ⟨bw, 0, none⟩) A.ws.length A.ws.length, rv]
  words : rowAt w bw 39 (words A.ws)
  regs : w.ownsRow 0 94 2 rv A.rs.length (pairs A.rs)
  pw : p ≠ bw
  own : ∀ g, rv.ownBlock = some g → g ≠ p ∧ g ≠ bw
  ok : A.Ok

def rfoot (p bw : Nat) (rv : Value) : Nat → Prop := fun k => k = p ∨ k = bw ∨ rv.ownBlock = some k

theorem RefIn.upon {w w' : World} {p bw : Nat} {rv : Value} {A : Ar} (h : RefIn w p bw rv A) {S : Nat → Prop} (hu : Upon S w w') (hS : ∀ k, rfoot p bw rv k → ¬ S k) : RefIn w' p bw rv A :=
  ⟨h.root.upon hu (hS p (.inl rfl)), h.words.upon hu (hS bw (.inr (.inl rfl))), owns_upon h.regs hu fun g hg => hS g (.inr (.inr hg)), h.pw, h.own, h.ok⟩

/-- Where a region stands. -/
theorem findR_at {hi : Nat} : ∀ {rs : List (Nat × Nat)} {lo : Nat} {k : Int} {n : Nat}, Chain lo rs hi → findR rs k = some n →
    ∃ i, ∃ hl : i < rs.length, (rs[i].1 : Int) = k ∧ rs[i].2 = n ∧ dropR rs k = rs.take i ++ rs.drop (i + 1) ∧ ∀ j (hj : j < rs.length), j < i → (rs[j].1 : Int) ≠ k
  | [], _, _, _, _, h => by cases h
  | r :: rs, lo, k, n, ⟨h1, h2, h3⟩, h => by
    unfold findR at h
    split at h
    · rename_i hk
      cases h
      exact ⟨0, by simp, hk, rfl, by simp [dropR, hk], fun j _ hj => by omega⟩
    · rename_i hk
      obtain ⟨i, a, b, c, d, e⟩ := findR_at h3 h
      refine ⟨i + 1, by simpa using a, by simpa using b, by simpa using c, by simp [dropR, hk, d], ?_⟩
      intro j hj hji
      cases j with
      | zero => simpa using hk
      | succ j => simpa using e j (by simpa using hj) (by omega)
theorem findR_no : ∀ {rs : List (Nat × Nat)} {k : Int}, findR rs k = none → ∀ j (hj : j < rs.length), (rs[j].1 : Int) ≠ k
  | [], _, _, j, hj => by simp at hj
  | r :: rs, k, h, j, hj => by
    unfold findR at h
    split at h
    · cases h
    · rename_i hk
      cases j with
      | zero => simpa using hk
      | succ j => simpa using findR_no h j (by simpa using hj)

theorem RefIn.cells {w : World} {p bw : Nat} {rv : Value} {A : Ar} (h : RefIn w p bw rv A) :
    ∃ a c, rv = .slice a A.rs.length c ∧ (A.rs.length = 0 ∨ ∃ g, a = some ⟨g, 0, none⟩ ∧ ∀ j (hj : j < A.rs.length), w.cell? ⟨g, j * 2, none⟩ = some (.int .i64 (A.rs[j].1 : Int)) ∧ w.cell? ⟨g, j * 2 + 1, none⟩ = some (.int .i64 (A.rs[j].2 : Int))) := by
  rcases owns_parts h.regs with ⟨rfl, h0, _⟩ | ⟨g, cap, rest, rfl, _, hr, _⟩
  · exact ⟨none, 0, by rw [h0], .inl h0⟩
  · refine ⟨_, _, rfl, .inr ⟨g, rfl, fun j hj => ?_⟩⟩
    have hp := length_pairs A.rs
    obtain ⟨q1, q2⟩ := pairsL_get (pairI A.rs) j (by simpa [pairI] using hj)
    rw [← pairs_pairI] at q1 q2
    rw [hr.cell, hr.cell, List.getElem?_append_left (by omega), List.getElem?_append_left (by omega), q1, q2]
    simp [pairI]

theorem refFind_no {w : World} {p bw : Nat} {rv : Value} {A : Ar} (h : RefIn w p bw rv A) {k : Int} (hf : A.find k = none) :
    Calls Try.prog 56 #[.pointer (some ⟨p, 0, none⟩), .int .i64 k] w fun e w' => e = .returned (.int .i64 (-1)) ∧ w = w' := by
  obtain ⟨a, c, rfl, hc⟩ := h.cells
  have c1 : w.cell? ⟨p, 1, none⟩ = some (.slice a A.rs.length c) := (h.root.cell 1).trans rfl
  have HC := Lib.hid hc
  have HN : Hid (∀ j (hj : j < A.rs.length), (A.rs[j].1 : Int) ≠ k) := findR_no hf
  have hlen : A.rs.length ≤ 20000 := by have := h.ok.chain.len; have := h.ok.max; omega
  clear hc
  go_enter Try.func56, Try.ntmps56
  go_wp2
  go_loop [5] (fun i => ∃ j : Nat, j ≤ A.rs.length ∧ i = .int .i64 j) (fun i => A.rs.length - (intOf i).toNat)
  case atStart => exact ⟨0, Nat.zero_le _, rfl⟩
  case round =>
    obtain ⟨j, hj, rfl⟩ := hrel
    by_cases hlt : j < A.rs.length
    · rcases HC.out with h0 | ⟨g, rfl, hcell⟩
      · omega
      obtain ⟨e1, _⟩ := hcell j hlt
      have d1 : ((A.rs[j].1 : Int) == k) = false := by rw [beq_eq_false_iff_ne]; exact HN.out j hlt
      clear hcell HC
      go_wp2
      go_round
      case rel => exact ⟨j + 1, by omega, by go_num⟩
      case measure => simp [intOf]; omega
    · go_wp2
      go_ret
      exact ⟨rfl, rfl⟩

theorem refFind_yes {w : World} {p bw : Nat} {rv : Value} {A : Ar} (h : RefIn w p bw rv A) {k : Int} {i : Nat} (hl : i < A.rs.length) (hk : (A.rs[i].1 : Int) = k) (hno : ∀ j (hj : j < A.rs.length), j < i → (A.rs[j].1 : Int) ≠ k) :
    Calls Try.prog 56 #[.pointer (some ⟨p, 0, none⟩), .int .i64 k] w fun e w' => e = .returned (.int .i64 i) ∧ w = w' := by
  obtain ⟨a, c, rfl, hc⟩ := h.cells
  have c1 : w.cell? ⟨p, 1, none⟩ = some (.slice a A.rs.length c) := (h.root.cell 1).trans rfl
  have HC := Lib.hid hc
  have HN : Hid (∀ j (hj : j < A.rs.length), j < i → (A.rs[j].1 : Int) ≠ k) := hno
  have HK := Lib.hid hk
  have hlen : A.rs.length ≤ 20000 := by have := h.ok.chain.len; have := h.ok.max; omega
  clear hc hno hk
  go_enter Try.func56, Try.ntmps56
  go_wp2
  go_loop [5] (fun v => ∃ j : Nat, j ≤ i ∧ v = .int .i64 j) (fun v => i - (intOf v).toNat)
  case atStart => exact ⟨0, Nat.zero_le _, rfl⟩
  case round =>
    obtain ⟨j, hj, rfl⟩ := hrel
    have hlt : j < A.rs.length := by omega
    rcases HC.out with h0 | ⟨g, rfl, hcell⟩
    · omega
    obtain ⟨e1, _⟩ := hcell j hlt
    by_cases hji : j < i
    · have d1 : ((A.rs[j].1 : Int) == k) = false := by rw [beq_eq_false_iff_ne]; exact HN.out j hlt hji
      clear hcell HC
      go_wp2
      go_round
      case rel => exact ⟨j + 1, by omega, by go_num⟩
      case measure => simp [intOf]; omega
    · obtain rfl : j = i := by omega
      have d1 : ((A.rs[j].1 : Int) == k) = true := by rw [beq_iff_eq]; exact HK.out
      clear hcell HC
      go_wp2
      go_ret
      exact ⟨rfl, rfl⟩

def Ar.size (A : Ar) (k : Int) : Int := match A.find k with | some n => n | none => -1

theorem refSize_any {w : World} {p bw : Nat} {rv : Value} {A : Ar} (h : RefIn w p bw rv A) (k : Int) :
    Calls Try.prog 42 #[.pointer (some ⟨p, 0, none⟩), .int .i64 k] w fun e w' => e = .returned (.int .i64 (A.size k)) ∧ w = w' := by
  cases hf : A.find k with
  | none =>
    have hs : A.size k = -1 := by simp [Ar.size, hf]
    have HS := Lib.hid hs
    clear hs
    go_enter Try.func42, Try.ntmps42
    go_wp2_with (go_at_call 56; refine (refFind_no h hf).mono ?_; rintro e w' ⟨rfl, rfl⟩)
    go_ret
    exact ⟨ret_int HS.out.symm, rfl⟩
  | some n =>
    obtain ⟨i, hl, hk, hn, _, hno⟩ := findR_at h.ok.chain hf
    have hs : A.size k = A.rs[i].2 := by simp [Ar.size, hf, hn]
    obtain ⟨a, c, rfl, hc⟩ := h.cells
    have c1 : w.cell? ⟨p, 1, none⟩ = some (.slice a A.rs.length c) := (h.root.cell 1).trans rfl
    obtain ⟨g, rfl, hcell⟩ := hc.resolve_left (by omega)
    obtain ⟨_, e2⟩ := hcell i hl
    have HS := Lib.hid hs
    have HK := Lib.hid hk
    have HNO : Hid (∀ j (hj : j < A.rs.length), j < i → (A.rs[j].1 : Int) ≠ k) := hno
    have hlen : A.rs.length ≤ 20000 := by have := h.ok.chain.len; have := h.ok.max; omega
    clear hs hcell hc hno hk hn
    go_enter Try.func42, Try.ntmps42
    go_wp2_with (go_at_call 56; refine (refFind_yes h hl HK.out HNO.out).mono ?_; rintro e w' ⟨rfl, rfl⟩)
    go_ret
    exact ⟨ret_int HS.out.symm, rfl⟩

theorem inB_size (A : Ar) (k i : Int) : A.inB k i = decide (0 ≤ i ∧ i < A.size k) := by
  unfold Ar.inB Ar.size
  cases A.find k with
  | none => simp; omega
  | some n => rfl

theorem RefIn.set {w : World} {p bw : Nat} {rv : Value} {A : Ar} (h : RefIn w p bw rv A) {k i : Int} (hi : A.inB k i = true) {x : Int} (hx : (Lit.int .u64 x).wf = true) :
    RefIn (w.setCell ⟨bw, (k + i).toNat, none⟩ (.int .u64 x)) p bw rv (A.set k i x) := by
  have e : A.set k i x = { A with ws := A.ws.set (k + i).toNat x } := by simp [Ar.set, hi]
  have ok := h.ok.set k i x hx
  have hu : Upon (fun b => b = bw) w (w.setCell ⟨bw, (k + i).toNat, none⟩ (.int .u64 x)) := Upon.setCell _ _ rfl
  rw [e] at ok ⊢
  refine ⟨?_, ?_, owns_upon h.regs hu fun g hg => (h.own g hg).2, h.pw, h.own, ok⟩
  · have := h.root.upon hu h.pw
    simpa using this
  · have := h.words.set (k + i).toNat (.int .u64 x)
    simpa [List.map_set] using this

theorem refSet_any {w : World} {p bw : Nat} {rv : Value} {A : Ar} (h : RefIn w p bw rv A) (k i x : Int) (hx : (Lit.int .u64 x).wf = true) :
    Calls Try.prog 23 #[.pointer (some ⟨p, 0, none⟩), .int .i64 k, .int .i64 i, .int .u64 x] w fun e w' => e = .returned (.bool (A.inB k i)) ∧ RefIn w' p bw rv (A.set k i x) ∧ Upon (fun b => b = bw) w w' := by
  have c0 : w.cell? ⟨p, 0, none⟩ = some (.slice (some ⟨bw, 0, none⟩) A.ws.length A.ws.length) := (h.root.cell 0).trans rfl
  cases hi : A.inB k i with
  | false =>
    have hs : A.set k i x = A := by simp [Ar.set, hi]
    have hsz : ¬ (0 ≤ i ∧ i < A.size k) := by rw [inB_size] at hi; simpa using hi
    rw [hs]
    by_cases h0 : i < 0
    · clear hsz hi hs
      go_enter Try.func23, Try.ntmps23
      go_wp2
      go_ret
      exact ⟨rfl, h, Upon.refl _ _⟩
    · have h1 : A.size k ≤ i := by omega
      have h2 : 0 ≤ i := by omega
      clear hsz hi hs h0
      go_enter Try.func23, Try.ntmps23
      go_wp2_with (go_at_call 42; refine (refSize_any h k).mono ?_; rintro e w' ⟨rfl, rfl⟩)
      go_ret
      exact ⟨rfl, h, Upon.refl _ _⟩
  | true =>
    have hsz : 0 ≤ i ∧ i < A.size k := by rw [inB_size] at hi; simpa using hi
    obtain ⟨h2, h1⟩ := hsz
    have hb := h.ok.inB hi
    have hm := h.ok.max
    have HN := Lib.hid (h.set hi hx)
    obtain ⟨kn, rfl⟩ := Int.eq_ofNat_of_zero_le hb.1
    obtain ⟨j, rfl⟩ := Int.eq_ofNat_of_zero_le hb.2.1
    have hkj : ((kn : Int) + (j : Int)).toNat = kn + j := by omega
    rw [hkj] at HN
    have hc : w.cell? ⟨bw, kn + j, none⟩ = some (.int .u64 (A.ws.getD (kn + j) 0)) := by
      rw [h.words.cell, List.getElem?_map, List.getD_eq_getElem?_getD, List.getElem?_eq_getElem (by omega)]
      rfl
    have hf := h.words.free (kn + j)
    clear hi hkj
    go_enter Try.func23, Try.ntmps23
    go_wp2_with (go_at_call 42; refine (refSize_any h kn).mono ?_; rintro e w' ⟨rfl, rfl⟩)
    go_ret
    exact ⟨rfl, HN.out, Upon.setCell _ _ rfl⟩

theorem refNew_no {w : World} {n : Int} (h : n < 1 ∨ 20000 < n) :
    Calls Try.prog 19 #[.int .i64 n] w fun e w' => e = .returned (.pointer none) ∧ w = w' := by
  rcases h with h | h
  · go_enter Try.func19, Try.ntmps19
    go_wp2
    go_ret
    exact ⟨rfl, rfl⟩
  · have h' : ¬ n < 1 := by omega
    go_enter Try.func19, Try.ntmps19
    go_wp2
    go_ret
    exact ⟨rfl, rfl⟩

theorem refNew_yes {w : World} {n : Nat} (h1 : 1 ≤ n) (h2 : n ≤ 20000) :
    Calls Try.prog 19 #[.int .i64 n] w fun e w' => ∃ p bw rv, e = .returned (.pointer (some ⟨p, 0, none⟩)) ∧ RefIn w' p bw rv (Ar.new n) ∧ Below w.heap.size w w' ∧ ∀ k, rfoot p bw rv k → w.heap.size ≤ k := by
  obtain ⟨i0, hi, hz0, hz1, hz2⟩ := info_parts info_word
  have h3 : 1 ≤ (n : Int) := by omega
  go_enter Try.func19, Try.ntmps19
  go_wp2_with (with_reducible refine wpList_make_full _ rfl _ _ _ rfl w.heap.size 39 i0 (.int .u64 0) 1 under_words hi hz0 hz1 .i64 .i64 _ _ n rfl rfl rfl rfl ?q1 ?q2 (Nat.le_refl _) ?_)
  case q1 => rw [hz2]; omega
  case q2 => simp only [maxLen]; omega
  intro w1 hown hgrow
  have HO := Lib.hid hown
  have hsz : w.heap.size < w1.heap.size := (hown.lt _ rfl).2
  clear hown
  go_wp2
  go_ret
  have hrow : rowAt w1 w.heap.size 39 (words (Ar.new n).ws) := by
    have h := HO.out
    rw [made_words] at h
    rcases owns_parts h with ⟨h0, _⟩ | ⟨g', cap', rest', h0, _, hr', hl', hc', _⟩
    · cases h0
    cases h0
    have hrest : rest' = [] := List.length_eq_zero_iff.1 (by omega)
    rw [hrest, List.append_nil] at hr'
    exact hr'
  have hlen : (Ar.new n).ws.length = n := by simp [Ar.new]
  have hb1 : Below w.heap.size w w1 := (Below.refl _ w).grown hgrow (Nat.le_refl _) (by intro k hk; cases hk)
  refine ⟨_, w.heap.size, .slice none 0 0, rfl, ⟨?_, hrow.alloc _, World.ownsRow_nil _ _ _ _, ?_, ?_, Ar.new_ok h1 h2⟩, ?_, ?_⟩
  · rw [hlen]
    exact rowAt.made_at _ _ rfl
  · omega
  · intro g hg; cases hg
  · exact hb1.alloc (by omega) _
  · rintro k (rfl | rfl | hk)
    · omega
    · exact Nat.le_refl _
    · cases hk

end Go.Proofs.Ytnjpjhlodamanaa
