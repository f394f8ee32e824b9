/-
  Package lex in plain words: words by themselves; the state of a law's walk.
  Conditions: as each states.
-/
import Derived.Test.YtlidegofnkmenaaDoorLxW
namespace Go.Proofs.YtlidegofnkmenaaDoor
open Go.ChangeShapes Go.WideShapes Go.ChangeAt Go.RowKit
set_option linter.unusedVariables false
set_option linter.unusedSimpArgs false
set_option maxRecDepth 100000

/-- A walk's world: the tables read as they did, nothing of the caller's is turned. -/
structure Lw (w W : World) : Prop where
  tab : LxTab W
  bel : Below w.heap.size w W
theorem Lw.on {w W W' : World} (h : Lw w W) (hb : Below W.heap.size W W') : Lw w W' := ⟨h.tab.below hb, below_chain h.bel hb⟩
theorem Lw.drew {w W : World} (h : Lw w W) : Lw w W.drew := h.on (below_draws (Below.refl _ _) 1)
theorem Lw.drewN {w W : World} (h : Lw w W) (n : Nat) : Lw w (W.drewN n) := h.on (below_draws (Below.refl _ _) n)
theorem Lw.alloc {w W : World} (h : Lw w W) (o : Obj) : Lw w (W.alloc o) := h.on (below_alloc o)
theorem drew_cell {W : World} {b o : Nat} {v : Value} (h : W.cell? ⟨b, o, none⟩ = some v) : W.drew.cell? ⟨b, o, none⟩ = some v := h

/-! ## Words -/
def wpB (l : List UInt8) (k : Nat) : Bool := (l.take k).all wdB && (decide (k = 0) || ltN (byN l 0))
theorem wpB_zero (l : List UInt8) : wpB l 0 = true := by simp [wpB]
theorem wpB_step {l : List UInt8} {k : Nat} (h : k < l.length) : wpB l (k + 1) = (wpB l k && (ltN (byN l k) || (decide (0 < k) && dgN (byN l k)))) := by
  unfold wpB
  have e : byN l k = (l[k]).toNat := by unfold byN; rw [List.getD_eq_getElem?_getD, List.getElem?_eq_getElem h]; rfl
  rw [List.take_add_one, List.getElem?_eq_getElem h, List.all_append, e]
  simp only [Option.toList, List.all_cons, List.all_nil, Bool.and_true]
  cases k with
  | zero =>
    have e0 : byN l 0 = (l[0]).toNat := by unfold byN; rw [List.getD_eq_getElem?_getD, List.getElem?_eq_getElem h]; rfl
    rw [e0]
    unfold wdB wdN
    cases h1 : ltN (l[0]).toNat <;> simp
  | succ k =>
    rw [decide_eq_true (p := 0 < k + 1) (by omega), decide_eq_false (p := k + 1 + 1 = 0) (by omega), decide_eq_false (p := k + 1 = 0) (by omega)]
    simp only [Bool.false_or, Bool.true_and]
    show _ = (((l.take (k + 1)).all wdB && ltN (byN l 0)) && wdB l[k + 1])
    cases (l.take (k + 1)).all wdB <;> cases ltN (byN l 0) <;> cases wdB l[k + 1] <;> rfl
theorem wpB_all {l : List UInt8} (h0 : l.length ≠ 0) : wpB l l.length = (l.all wdB && ltN (byN l 0)) := by
  unfold wpB
  rw [List.take_length, decide_eq_false h0]; rfl
theorem lenW_all {p : UInt8 → Bool} {l : List UInt8} (h : l.all p = true) : lenW p l = l.length := by
  refine lenW_eq p l _ (Nat.le_refl _) (fun j c _ hc => ?_) (fun c hc => ?_)
  · exact List.all_eq_true.1 h c (List.mem_of_getElem? hc)
  · rw [List.getElem?_eq_none (Nat.le_refl _)] at hc; cases hc
theorem all_of_lenW {p : UInt8 → Bool} {l : List UInt8} (h : lenW p l = l.length) : l.all p = true := by
  rw [List.all_eq_true]
  intro c hc
  obtain ⟨j, hj, he⟩ := List.mem_iff_getElem.1 hc
  exact lenW_in p l j c (by omega) (by rw [List.getElem?_eq_getElem hj, he])
theorem lt_skip {l : List UInt8} (h : ltN (byN l 0) = true) : skP false l = 0 := by
  refine skP_stop ?_ ?_
  · cases hb : blN (byN l 0)
    · rfl
    · have : byN l 0 = 32 ∨ byN l 0 = 9 ∨ byN l 0 = 10 := by unfold blN at hb; simpa using hb
      rcases this with e | e | e <;> rw [e] at h <;> exact absurd h (by decide)
  · intro e; rw [e] at h; exact absurd h (by decide)
/-- A word by itself. -/
theorem word_first {l : List UInt8} (h : l.all wdB = true) (h1 : ltN (byN l 0) = true) (h0 : l.length ≠ 0) (h2 : l.length ≤ 12) : firstP l = some (kwP l, l, l.length) := by
  have := firstP_word h0 h1 (by rw [lenW_all h]; exact h2)
  rwa [lenW_all h, List.take_length] at this
theorem word_long {l : List UInt8} (h : l.all wdB = true) (h1 : ltN (byN l 0) = true) (h2 : 12 < l.length) : firstP l = none := firstP_long h1 (by rw [lenW_all h]; exact h2)
theorem word_toks {l : List UInt8} (h : l.all wdB = true) (h1 : ltN (byN l 0) = true) (h0 : l.length ≠ 0) (h2 : l.length ≤ 12) : toks 0 l = ([(kwP l, l, 0)], none) := by
  have hs := lt_skip h1
  rw [toks_some 0 (k := kwP l) (t := l) (n := l.length) (by rw [hs]; exact word_first h h1 h0 h2), hs, toks_end _ (by rw [Nat.zero_add, List.drop_length]; rfl)]
theorem word_toks_long {l : List UInt8} (h : l.all wdB = true) (h1 : ltN (byN l 0) = true) (h2 : 12 < l.length) : toks 0 l = ([], some 0) := by
  have hs := lt_skip h1
  rw [toks_bad 0 (by rw [hs]; omega) (by rw [hs]; exact word_long h h1 h2), hs]
theorem isAll_word {l : List UInt8} (h : l.all wdB = true) (h1 : ltN (byN l 0) = true) (h0 : l.length ≠ 0) (h2 : l.length ≤ 12) (k : Int) : isAll l k = decide (kwP l = k) := by
  unfold isAll
  rw [word_first h h1 h0 h2]
  simp
theorem isAll_long {l : List UInt8} (h : l.all wdB = true) (h1 : ltN (byN l 0) = true) (h2 : 12 < l.length) (k : Int) : isAll l k = false := by
  unfold isAll
  rw [word_long h h1 h2]
theorem lg_small : ∀ g ∈ lgL, gtN (byN g 0) = false := by decide
theorem kw_cases (l : List UInt8) (h : l ≠ [95]) : gtN (byN l 0) = true ∧ kwP l = 2 ∨ gtN (byN l 0) = false ∧ kwP l = 5 ∨ gtN (byN l 0) = false ∧ kwP l = 1 := by
  unfold kwP
  rw [if_neg h]
  cases hg : gtN (byN l 0)
  · by_cases hm : l ∈ lgL
    · rw [if_pos hm]; exact .inr (.inl ⟨rfl, rfl⟩)
    · rw [if_neg hm, if_neg (by decide)]; exact .inr (.inr ⟨rfl, rfl⟩)
  · rw [if_neg (fun hm => by rw [lg_small l hm] at hg; cases hg), if_pos rfl]; exact .inl ⟨rfl, rfl⟩
/-- What is a name or a constructor by itself is a word. -/
theorem isAll_is {l : List UInt8} {k : Int} (hk : k = 1 ∨ k = 2) (h : isAll l k = true) : l.all wdB = true ∧ ltN (byN l 0) = true ∧ l ≠ [95] ∧ l.length ≠ 0 ∧ l.length ≤ 12 ∧ kwP l = k := by
  unfold isAll at h
  cases hx : firstP l with
  | none => rw [hx] at h; cases h
  | some x =>
    obtain ⟨kd, t, n⟩ := x
    rw [hx] at h
    simp only [Bool.and_eq_true, decide_eq_true_eq] at h
    obtain ⟨hn, hkd⟩ := h
    obtain ⟨h0, hc⟩ := firstP_cases hx
    rcases hc with ⟨h1, h2, h3, h4, h5⟩ | ⟨_, _, _, _, h3, _⟩ | ⟨_, _, _, h3, _⟩ | ⟨_, _, _, _, h3, _⟩
    · have hl : lenW wdB l = l.length := by omega
      rw [hl, List.take_length] at h3
      have h95 : l ≠ [95] := by
        intro e
        have : kwP l = 6 := by unfold kwP; rw [if_pos e]
        rw [this] at h3
        omega
      exact ⟨all_of_lenW hl, h1, h95, h0, by omega, by rw [← h3, hkd]⟩
    · omega
    · omega
    · omega
theorem isAll_no {l : List UInt8} (h0 : l.length ≠ 0) (h : wpB l l.length = false ∨ l = [95]) (k : Int) (hk : k = 1 ∨ k = 2) : isAll l k = false := by
  cases hi : isAll l k
  · rfl
  · obtain ⟨h1, h2, h3, _⟩ := isAll_is hk hi
    rcases h with h | h
    · rw [wpB_all h0, h1, h2] at h; cases h
    · exact absurd h h3
theorem mk_ls (s : ByteArray) : (⟨(Ls s).toArray⟩ : ByteArray) = s := rfl
/-- A source of one token, which is the whole of it. -/
theorem tokens_one {s : ByteArray} {kd : Int} (hs : s.size ≤ 100000) (hE : tkE (Ls s) = 0) (hA : tkA (Ls s) = 0) (hL : tkL (Ls s) = [(kd, Ls s, 0)]) (w : World) (T : LxTab w) :
    Calls Tryd.prog 10 #[.string s] w fun e w' => ∃ g c, e = .returned (.tuple #[.slice (some ⟨g, 0, none⟩) 1 c, .agg #[.int .i64 0, .int .i64 0]]) ∧ 1 ≤ c ∧ g < w'.heap.size ∧ w'.cell? ⟨g, 0, none⟩ = some (.int .i64 kd) ∧ w'.cell? ⟨g, 1, none⟩ = some (.string s) ∧ Below w.heap.size w w' := by
  refine (tokens_is (D := [(kd, Ls s, 0)]) (n := 1) hs hE hA hL rfl w T).mono ?_
  rintro e w' ⟨a, c, rfl, ho, hb⟩
  obtain ⟨g, rfl, -, hg1, hn1, hcell⟩ := tok_cells ho (by decide)
  exact ⟨g, c, rfl, hn1, hg1, hcell 0 _ rfl, hcell 1 _ rfl, hb⟩
theorem cell_alloc {w1 : World} {g o : Nat} {v : Value} (hg : g < w1.heap.size) (h : w1.cell? ⟨g, o, none⟩ = some v) (ob : Obj) : (w1.alloc ob).cell? ⟨g, o, none⟩ = some v :=
  (((Below.refl w1.heap.size w1).alloc (Nat.le_refl _) ob).cell (p := ⟨g, o, none⟩) hg).trans h
theorem size_alloc {w1 : World} {g : Nat} (hg : g < w1.heap.size) (ob : Obj) : g < (w1.alloc ob).heap.size := by simp; omega
end Go.Proofs.YtlidegofnkmenaaDoor
