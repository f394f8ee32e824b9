/-
  Memory for every law of a seat that writes memory: 'Upon S w w'' (only blocks of S and new ones have turned), a row of cells known whole ('rowAt'), a map of integer keys ('mapAt').
  Conditions: as each states.
-/
import Derived.Test.YtlidegofnkmenaaDoorKit
import Derived.Deep.Upon
import Derived.Lib.SliceRun
import Derived.Sort.Row
namespace Go.Proofs.YtlidegofnkmenaaDoor
open Go.ChangeShapes Go.WideShapes Go.ChangeAt Go.RowKit
set_option linter.unusedVariables false
set_option linter.unusedSimpArgs false

/-- Only blocks of S, and new ones, have turned. -/
structure Upon (S : Nat → Prop) (w w' : World) : Prop where
  os : w'.os = w.os
  tape : w'.tape = w.tape
  output : w'.output = w.output
  size : w.heap.size ≤ w'.heap.size
  block : ∀ k, k < w.heap.size → ¬ S k → w'.heap[k]? = w.heap[k]?

theorem Upon.refl (S : Nat → Prop) (w : World) : Upon S w w := ⟨rfl, rfl, rfl, Nat.le_refl _, fun _ _ _ => rfl⟩
theorem Upon.mono {S T : Nat → Prop} {w w' : World} (h : Upon S w w') (hs : ∀ k, k < w.heap.size → S k → T k) : Upon T w w' :=
  ⟨h.os, h.tape, h.output, h.size, fun k hk ht => h.block k hk fun s => ht (hs k hk s)⟩
/-- Two steps; the second one may turn what the first one made. -/
theorem Upon.trans {S T : Nat → Prop} {a b c : World} (h : Upon S a b) (k : Upon T b c) (hT : ∀ i, i < a.heap.size → T i → S i) : Upon S a c :=
  ⟨k.os.trans h.os, k.tape.trans h.tape, k.output.trans h.output, Nat.le_trans h.size k.size,
    fun i hi hs => (k.block i (Nat.lt_of_lt_of_le hi h.size) fun t => hs (hT i hi t)).trans (h.block i hi hs)⟩
theorem Upon.below {S : Nat → Prop} {w w' : World} (h : Upon S w w') (hS : ∀ k, S k → w.heap.size ≤ k) : Below w.heap.size w w' :=
  ⟨h.os, h.tape, h.output, h.size, fun k hk => h.block k hk fun s => by have := hS k s; omega⟩
theorem Upon.belowB {S : Nat → Prop} {B : Nat} {w w' : World} (h : Upon S w w') (hB : B ≤ w.heap.size) (hS : ∀ k, S k → B ≤ k) : Below B w w' :=
  ⟨h.os, h.tape, h.output, h.size, fun k hk => h.block k (by omega) fun s => by have := hS k s; omega⟩
theorem Upon.of_below {S : Nat → Prop} {w w' : World} (h : Below w.heap.size w w') : Upon S w w' := ⟨h.os, h.tape, h.output, h.size, fun k hk _ => h.block k hk⟩
theorem Upon.setCell {S : Nat → Prop} {w : World} (p : Addr) (v : Value) (hp : S p.block) : Upon S w (w.setCell p v) :=
  ⟨rfl, rfl, rfl, by simp [World.setCell], fun k _ hs => Below.heap_setCell _ _ _ _ fun e => hs (e ▸ hp)⟩
theorem Upon.alloc (S : Nat → Prop) (w : World) (o : Obj) : Upon S w (w.alloc o) := ⟨rfl, rfl, rfl, by simp, fun k hk _ => Below.heap_alloc _ _ _ hk⟩
theorem Upon.drewN (S : Nat → Prop) (w : World) (n : Nat) : Upon S w (w.drewN n) := ⟨rfl, rfl, rfl, Nat.le_refl _, fun _ _ _ => rfl⟩
theorem Upon.grown {S : Nat → Prop} {w w' : World} {row : Option Nat} (h : w.grownBy w' row) (hr : ∀ k, row = some k → S k) : Upon S w w' :=
  ⟨h.os, h.tape, h.output, h.size, fun k hk hs => h.block k hk fun e => hs (hr k e.symm)⟩
theorem Upon.setCells {S : Nat → Prop} {b : Nat} (hb : S b) : ∀ (vs : List Value) (o : Nat) (w : World), Upon S w (w.setCells b o vs)
  | [], _, w => Upon.refl S w
  | v :: r, o, w => by
    have h1 := Upon.setCell (S := S) (w := w) ⟨b, o, none⟩ v hb
    exact h1.trans (Upon.setCells hb r (o + 1) _) fun _ _ h => h

theorem Below.setCellsB {B b : Nat} (hb : B ≤ b) : ∀ (vs : List Value) (o : Nat) (w : World), Below B w (w.setCells b o vs)
  | [], _, w => Below.refl B w
  | v :: r, o, w => ((Below.refl B w).setCell (p := ⟨b, o, none⟩) hb v).trans (Below.setCellsB hb r (o + 1) _)

/-! ## A row of cells, known whole -/

def rowAt (w : World) (b : Nat) (T : TypeId) (cs : List Value) : Prop := w.heap[b]? = some (.cells ⟨cs⟩ T (0, 0))

theorem rowAt.lt {w : World} {b : Nat} {T : TypeId} {cs : List Value} (h : rowAt w b T cs) : b < w.heap.size := (Array.getElem?_eq_some_iff.1 h).1
theorem rowAt.cell {w : World} {b : Nat} {T : TypeId} {cs : List Value} (h : rowAt w b T cs) (o : Nat) : w.cell? ⟨b, o, none⟩ = cs[o]? := by
  unfold rowAt at h
  simp [World.cell?, h]
theorem rowAt.free {w : World} {b : Nat} {T : TypeId} {cs : List Value} (h : rowAt w b T cs) (o : Nat) : w.frozen? ⟨b, o, none⟩ = false := by
  unfold rowAt at h
  simp [World.frozen?, h]
theorem rowAt.shape {w : World} {b : Nat} {T : TypeId} {cs : List Value} (h : rowAt w b T cs) : w.shape? b = some (T, cs.length) := by
  unfold rowAt at h
  simp [World.shape?, h]
theorem rowAt.of_heap {w w' : World} {b : Nat} {T : TypeId} {cs : List Value} (h : rowAt w b T cs) (e : w'.heap[b]? = w.heap[b]?) : rowAt w' b T cs := e.trans h
theorem rowAt.upon {S : Nat → Prop} {w w' : World} {b : Nat} {T : TypeId} {cs : List Value} (h : rowAt w b T cs) (hu : Upon S w w') (hS : ¬ S b) : rowAt w' b T cs := h.of_heap (hu.block b h.lt hS)
theorem rowAt.below {B : Nat} {w w' : World} {b : Nat} {T : TypeId} {cs : List Value} (h : rowAt w b T cs) (hb : Below B w w') (hB : b < B) : rowAt w' b T cs := h.of_heap (hb.block b hB)
theorem rowAt.set {w : World} {b : Nat} {T : TypeId} {cs : List Value} (h : rowAt w b T cs) (o : Nat) (v : Value) : rowAt (w.setCell ⟨b, o, none⟩ v) b T (cs.set o v) := by
  unfold rowAt at h ⊢
  simp [World.setCell, Array.getElem?_modify, h]
theorem rowAt.other {w : World} {b : Nat} {T : TypeId} {cs : List Value} (h : rowAt w b T cs) (p : Addr) (v : Value) (hp : b ≠ p.block) : rowAt (w.setCell p v) b T cs := h.of_heap (Below.heap_setCell _ _ _ _ hp)
theorem rowAt.alloc {w : World} {b : Nat} {T : TypeId} {cs : List Value} (h : rowAt w b T cs) (o : Obj) : rowAt (w.alloc o) b T cs := h.of_heap (Below.heap_alloc _ _ _ h.lt)
theorem rowAt.drew {w : World} {b : Nat} {T : TypeId} {cs : List Value} (h : rowAt w b T cs) : rowAt w.drew b T cs := h
theorem rowAt.made_at {w : World} {b : Nat} (T : TypeId) (cs : List Value) (hb : b = w.heap.size) : rowAt (w.alloc (.cells ⟨cs⟩ T)) b T cs := hb ▸ heap_alloc_new w _
theorem rowAt.made (w : World) (T : TypeId) (cs : List Value) : rowAt (w.alloc (.cells ⟨cs⟩ T)) w.heap.size T cs := heap_alloc_new w _

/-- cs with vs laid over it from o on. -/
def splice : List Value → Nat → List Value → List Value
  | cs, _, [] => cs
  | cs, o, v :: r => splice (cs.set o v) (o + 1) r

theorem length_splice : ∀ (vs : List Value) (cs : List Value) (o : Nat), (splice cs o vs).length = cs.length
  | [], _, _ => rfl
  | v :: r, cs, o => by simp [splice, length_splice r]

theorem splice_eq : ∀ (vs : List Value) (cs : List Value) (o : Nat), o + vs.length ≤ cs.length → splice cs o vs = cs.take o ++ vs ++ cs.drop (o + vs.length)
  | [], cs, o, _ => by simp [splice]
  | v :: r, cs, o, h => by
    simp only [List.length_cons] at h
    rw [splice, splice_eq r _ _ (by simp; omega)]
    have h1 : (cs.set o v).take (o + 1) = cs.take o ++ [v] := by
      rw [List.take_succ_eq_append_getElem (by simp; omega)]
      simp [List.take_set_of_le]
    have h2 : (cs.set o v).drop (o + 1 + r.length) = cs.drop (o + (v :: r).length) := by
      rw [List.drop_set_of_lt (by omega)]
      congr 1
      simp only [List.length_cons]
      omega
    rw [h1, h2]
    simp

theorem rowAt.setCells {b : Nat} {T : TypeId} : ∀ (vs : List Value) (o : Nat) (w : World) (cs : List Value), rowAt w b T cs → rowAt (w.setCells b o vs) b T (splice cs o vs)
  | [], _, _, _, h => h
  | v :: r, o, w, cs, h => rowAt.setCells r (o + 1) _ _ (h.set o v)

theorem rowAt.putRow {α : Type} [Inhabited α] {w : World} {b : Nat} {T : TypeId} {cs : List Value} (h : rowAt w b T cs) (enc : α → Value) (d : List α) (n : Nat) (hd : d.length ≤ cs.length) :
    rowAt (Sort.putRow enc (Sort.ahead w n) b 0 d.toArray) b T (d.map enc ++ cs.drop d.length) := by
  unfold rowAt at h ⊢
  simp only [Sort.putRow, Sort.mapBlock, Sort.ahead, Array.getElem?_modify, h]
  simp only [if_true, Option.map_some, Sort.onCells]
  congr 2
  apply Array.ext
  · simp [Sort.putCells]; omega
  · intro i h1 h2
    simp only [Sort.putCells, Array.getElem_mapIdx]
    simp only [List.size_toArray, Nat.zero_le, true_and, Nat.zero_add, Nat.sub_zero, List.getElem_toArray]
    by_cases hi : i < d.length
    · rw [if_pos hi, List.getElem_append_left (by simpa using hi)]
      simp [hi]
    · rw [if_neg hi, List.getElem_append_right (by simpa using Nat.le_of_not_lt hi)]
      simp only [List.length_map, List.getElem_drop]
      congr 1
      omega
theorem Upon.putRow {α : Type} [Inhabited α] {S : Nat → Prop} (w : World) (b n : Nat) (hb : S b) (enc : α → Value) (d : Array α) : Upon S w (Sort.putRow enc (Sort.ahead w n) b 0 d) :=
  ⟨rfl, rfl, rfl, by simp, fun k hk hs => by
    simp only [Sort.putRow, Sort.mapBlock, Sort.ahead, Array.getElem?_modify]
    have hne : ¬ b = k := fun e => hs (by rw [← e]; exact hb)
    rw [if_neg hne]⟩

/-! ## A slice at the head of a row ('ownsRow' of the library), taken apart and put together -/

theorem owns_parts {w : World} {B : Nat} {e : TypeId} {size : Nat} {v : Value} {n : Nat} {xs : List Value} (h : w.ownsRow B e size v n xs) :
    (v = .slice none 0 0 ∧ n = 0 ∧ xs = []) ∨ ∃ g cap rest, v = .slice (some ⟨g, 0, none⟩) n cap ∧ B ≤ g ∧ rowAt w g e (xs ++ rest) ∧ xs.length = n * size ∧ xs.length + rest.length = cap * size ∧ n ≤ cap ∧ cap ≤ maxLen := by
  obtain ⟨h1, h2⟩ := h
  rcases h2 with ⟨rfl, rfl⟩ | ⟨g, cap, cur, rfl, hg, hh, hn, hc, hs, ht⟩
  · exact .inl ⟨rfl, rfl, List.length_eq_zero_iff.1 (by simpa using h1)⟩
  · refine .inr ⟨g, cap, cur.toList.drop (n * size), rfl, hg, ?_, h1, ?_, hn, hc⟩
    · unfold rowAt
      rw [← ht, List.take_append_drop]
      exact hh
    · rw [h1, List.length_drop, Array.length_toList, hs]
      have : n * size ≤ cap * size := Nat.mul_le_mul_right _ hn
      omega

theorem owns_slice {w : World} {B : Nat} {e : TypeId} {size : Nat} {v : Value} {n : Nat} {xs : List Value} (h : w.ownsRow B e size v n xs) : ∃ a c, v = .slice a n c := by
  rcases h.2 with ⟨rfl, rfl⟩ | ⟨g, cap, cur, rfl, _⟩
  · exact ⟨_, _, rfl⟩
  · exact ⟨_, _, rfl⟩

theorem owns_mk {w : World} {B : Nat} {e : TypeId} {size : Nat} {g n cap : Nat} {xs rest : List Value} (h : rowAt w g e (xs ++ rest)) (hB : B ≤ g) (h1 : xs.length = n * size) (h2 : xs.length + rest.length = cap * size) (hn : n ≤ cap) (hc : cap ≤ maxLen) :
    w.ownsRow B e size (.slice (some ⟨g, 0, none⟩) n cap) n xs :=
  ⟨h1, .inr ⟨g, cap, ⟨xs ++ rest⟩, rfl, hB, h, hn, hc, by simpa using h2, by simp [← h1]⟩⟩

theorem owns_of_heap {w w' : World} {B : Nat} {e : TypeId} {size : Nat} {v : Value} {n : Nat} {xs : List Value} (h : w.ownsRow B e size v n xs) (hk : ∀ g, v.ownBlock = some g → w'.heap[g]? = w.heap[g]?) : w'.ownsRow B e size v n xs := by
  obtain ⟨h1, h2⟩ := h
  rcases h2 with h2 | ⟨g, cap, cur, rfl, hg, hh, r⟩
  · exact ⟨h1, .inl h2⟩
  · exact ⟨h1, .inr ⟨g, cap, cur, rfl, hg, (hk g rfl).trans hh, r⟩⟩
theorem owns_upon {S : Nat → Prop} {w w' : World} {B : Nat} {e : TypeId} {size : Nat} {v : Value} {n : Nat} {xs : List Value} (h : w.ownsRow B e size v n xs) (hu : Upon S w w') (hS : ∀ g, v.ownBlock = some g → ¬ S g) : w'.ownsRow B e size v n xs :=
  owns_of_heap h fun g hg => hu.block g (h.lt g hg).2 (hS g hg)
theorem owns_below {B : Nat} {w w' : World} {B' : Nat} {e : TypeId} {size : Nat} {v : Value} {n : Nat} {xs : List Value} (h : w.ownsRow B' e size v n xs) (hu : Below B w w') (hS : ∀ g, v.ownBlock = some g → g < B) : w'.ownsRow B' e size v n xs :=
  owns_of_heap h fun g hg => hu.block g (hS g hg)
theorem owns_base {w : World} {B B' : Nat} {e : TypeId} {size : Nat} {v : Value} {n : Nat} {xs : List Value} (h : w.ownsRow B e size v n xs) (hB : ∀ g, v.ownBlock = some g → B' ≤ g) : w.ownsRow B' e size v n xs := by
  obtain ⟨h1, h2⟩ := h
  rcases h2 with h2 | ⟨g, cap, cur, rfl, hg, hh, r⟩
  · exact ⟨h1, .inl h2⟩
  · exact ⟨h1, .inr ⟨g, cap, cur, rfl, hB g rfl, hh, r⟩⟩

/-! ## A map whose keys are ints -/

def mget : List MapEntry → Int → Option Value
  | [], _ => none
  | e :: es, k => match e.key with
    | .int .i64 j => if j = k then some e.val else mget es k
    | _ => mget es k

def keysInt (es : List MapEntry) : Prop := ∀ e ∈ es, ∃ j, e.key = .int .i64 j
def keysOnce : List MapEntry → Prop
  | [] => True
  | e :: es => (∀ j, e.key = .int .i64 j → mget es j = none) ∧ keysOnce es

def mapAt (w : World) (b : Nat) (f : Int → Option Value) : Prop :=
  ∃ es clock, w.heap[b]? = some (.map es clock) ∧ keysInt es.toList ∧ keysOnce es.toList ∧ ∀ k, mget es.toList k = f k

theorem mapAt.lt {w : World} {b : Nat} {f : Int → Option Value} (h : mapAt w b f) : b < w.heap.size := by
  obtain ⟨es, c, h, _⟩ := h
  exact (Array.getElem?_eq_some_iff.1 h).1
theorem mapAt.of_heap {w w' : World} {b : Nat} {f : Int → Option Value} (h : mapAt w b f) (e : w'.heap[b]? = w.heap[b]?) : mapAt w' b f := by
  obtain ⟨es, c, h, r⟩ := h
  exact ⟨es, c, e.trans h, r⟩
theorem mapAt.upon {S : Nat → Prop} {w w' : World} {b : Nat} {f : Int → Option Value} (h : mapAt w b f) (hu : Upon S w w') (hS : ¬ S b) : mapAt w' b f := h.of_heap (hu.block b h.lt hS)
theorem mapAt.made (w : World) : mapAt (w.alloc (.map #[] 0)) w.heap.size (fun _ => none) :=
  ⟨#[], 0, heap_alloc_new w _, by intro e h; simp at h, trivial, fun _ => rfl⟩
theorem mapAt.congr {w : World} {b : Nat} {f g : Int → Option Value} (h : mapAt w b f) (e : ∀ k, f k = g k) : mapAt w b g := by
  obtain ⟨es, c, h, h1, h2, h3⟩ := h
  exact ⟨es, c, h, h1, h2, fun k => (h3 k).trans (e k)⟩

theorem findNow_mget (k : Int) : ∀ (es : List MapEntry) (i : Nat), keysInt es →
    ∃ r, Instr.findNow (.int .i64) (.int .i64 k) es i = some r ∧ r.map (·.2) = mget es k ∧
      ∀ j v, r = some (j, v) → i ≤ j ∧ ∃ e, es[j - i]? = some e ∧ e.key = .int .i64 k
  | [], i, _ => ⟨none, rfl, rfl, by simp⟩
  | e :: es, i, h => by
    obtain ⟨j, hj⟩ := h e (by simp)
    by_cases hk : j = k
    · subst hk
      refine ⟨some (i, e.val), by simp [Instr.findNow, Instr.sameNow, hj], by simp [mget, hj], ?_⟩
      rintro j' v h
      cases h
      exact ⟨Nat.le_refl _, e, by simp, hj⟩
    · obtain ⟨r, h1, h2, h3⟩ := findNow_mget k es (i + 1) (fun x hx => h x (by simp [hx]))
      refine ⟨r, by
        have hkb : (k == j) = false := by simpa using Ne.symm hk
        simp [Instr.findNow, Instr.sameNow, hj, h1, hkb], by simp [mget, hj, hk, h2], ?_⟩
      intro j' v hr
      obtain ⟨a, e', b, c⟩ := h3 j' v hr
      refine ⟨by omega, e', ?_, c⟩
      obtain ⟨m, rfl⟩ : ∃ m, j' = i + 1 + m := ⟨j' - (i + 1), by omega⟩
      have : i + 1 + m - i = (i + 1 + m - (i + 1)) + 1 := by omega
      rw [this]
      simpa using b

theorem mget_append (k : Int) : ∀ (es fs : List MapEntry), mget (es ++ fs) k = (mget es k).or (mget fs k)
  | [], fs => by simp [mget]
  | e :: es, fs => by
    simp only [List.cons_append, mget]
    rw [mget_append k es fs]
    split
    · split <;> simp
    · rfl

theorem keysOnce_append (e : MapEntry) (k : Int) (hk : e.key = .int .i64 k) : ∀ (es : List MapEntry), keysOnce es → mget es k = none → keysOnce (es ++ [e])
  | [], _, _ => ⟨by simp [mget], trivial⟩
  | d :: es, h, hn => by
    refine ⟨fun j hj => ?_, keysOnce_append e k hk es h.2 ?_⟩
    · show mget (es ++ [e]) j = none
      rw [mget_append, h.1 j hj]
      simp only [Option.none_or, mget, hk]
      simp only [mget, hj] at hn
      rw [if_neg]
      intro e; subst e; simp at hn
    · simp only [mget] at hn
      split at hn
      · split at hn
        · cases hn
        · exact hn
      · exact hn

theorem mget_erase (k j : Int) : ∀ (es : List MapEntry) (i : Nat) (e : MapEntry), keysInt es → keysOnce es → es[i]? = some e → e.key = .int .i64 k →
    mget (es.eraseIdx i) j = if j = k then none else mget es j
  | [], _, _, _, _, h, _ => by simp at h
  | d :: es, 0, e, hi, h, he, hk => by
    simp only [List.getElem?_cons_zero, Option.some.injEq] at he
    subst he
    simp only [List.eraseIdx_zero, List.tail_cons]
    by_cases hj : j = k
    · subst hj; simp [h.1 j hk]
    · simp [mget, hk, hj, Ne.symm hj]
  | d :: es, i + 1, e, hi, h, he, hk => by
    simp only [List.getElem?_cons_succ] at he
    obtain ⟨x, hx⟩ := hi d (by simp)
    have ih := mget_erase k j es i e (fun y hy => hi y (by simp [hy])) h.2 he hk
    have hne : x ≠ k := by
      intro e1
      subst e1
      have h5 := h.1 x hx
      have : ∀ (l : List MapEntry) (i : Nat), l[i]? = some e → mget l x ≠ none := by
        intro l
        induction l with
        | nil => intro i h; simp at h
        | cons y l ih2 =>
          intro i h
          cases i with
          | zero => simp at h; subst h; simp [mget, hk]
          | succ i =>
            simp only [List.getElem?_cons_succ] at h
            simp only [mget]
            split
            · split
              · simp
              · exact ih2 i h
            · exact ih2 i h
      exact this es i he h5
    simp only [List.eraseIdx_cons_succ, mget, hx, ih]
    by_cases hxj : x = j
    · subst hxj; simp [hne]
    · simp [hxj]

theorem keysOnce_erase (k : Int) : ∀ (es : List MapEntry) (i : Nat) (e : MapEntry), keysInt es → keysOnce es → es[i]? = some e → e.key = .int .i64 k → keysOnce (es.eraseIdx i)
  | [], _, _, _, h, _, _ => by simpa using h
  | d :: es, 0, _, _, h, _, _ => h.2
  | d :: es, i + 1, e, hi, h, he, hk => by
    simp only [List.getElem?_cons_succ] at he
    have hi' : keysInt es := fun y hy => hi y (by simp [hy])
    refine ⟨fun j hj => ?_, keysOnce_erase k es i e hi' h.2 he hk⟩
    rw [mget_erase k j es i e hi' h.2 he hk, h.1 j hj]
    simp

section
variable {P : Program} {T K E : TypeId} (hT : P.underlying T = some (.map K E)) (hK : P.underlying K = some (.int .i64))
include hT hK

/-- A look-up. -/
theorem run_lookup_int {w : World} {b : Nat} {f : Int → Option Value} (h : mapAt w b f) {z : Value} (hz : (zeroValue E).run P w = .ok z w) (k : Int) (ok : Bool) :
    (Instr.lookup T (.map (some b)) (.int .i64 k) ok).run P w = .ok (if ok then .tuple #[(f k).getD z, .bool (f k).isSome] else (f k).getD z) w := by
  obtain ⟨es, c, hb, h1, h2, h3⟩ := h
  obtain ⟨r, hr, hm, _⟩ := findNow_mget k es.toList 0 h1
  have hck := MapKept.run_checkKey (P := P) (w := w) (kt := K) (k := .int .i64 k) hK (by trivial) es.isEmpty 9999
  have hfk := MapKept.run_findKey (P := P) (w := w) hK hr
  rw [h3] at hm
  cases r with
  | none =>
    have : f k = none := by simpa using hm.symm
    simp [Instr.lookup, run_underlying hT, Result.andThen, MapKept.run_getObj_map hb, hck, hfk, hz, this]
  | some iv =>
    have : f k = some iv.2 := by simpa using hm.symm
    simp [Instr.lookup, run_underlying hT, Result.andThen, MapKept.run_getObj_map hb, hck, hfk, this]

/-- A new key. -/
theorem run_mapUpdate_new {w : World} {b : Nat} {f : Int → Option Value} (h : mapAt w b f) (k : Int) (v : Value) (hn : f k = none) :
    ∃ w', (Instr.mapUpdate T (.map (some b)) (.int .i64 k) v).run P w = .ok () w' ∧ mapAt w' b (fun j => if j = k then some v else f j) ∧ Upon (· = b) w w' := by
  obtain ⟨es, c, hb, h1, h2, h3⟩ := h
  obtain ⟨r, hr, hm, _⟩ := findNow_mget k es.toList 0 h1
  have hck := MapKept.run_checkKey (P := P) (w := w) (kt := K) (k := .int .i64 k) hK (by trivial) false 9999
  have hfk := MapKept.run_findKey (P := P) (w := w) hK hr
  rw [h3, hn] at hm
  obtain rfl : r = none := by simpa using hm
  refine ⟨{ w with heap := w.heap.setIfInBounds b (.map (es.push { key := .int .i64 k, val := v, born := c }) (c + 1)) }, ?_, ?_, ?_⟩
  · simp [Instr.mapUpdate, run_underlying hT, Result.andThen, MapKept.run_getObj_map hb, hck, hfk, MapKept.run_setObj_map _ hb]
  · refine ⟨_, _, (MapKept.heap_set hb).1, ?_, ?_, ?_⟩
    · intro e he
      simp only [Array.toList_push, List.mem_append, List.mem_singleton] at he
      rcases he with he | rfl
      · exact h1 e he
      · exact ⟨k, rfl⟩
    · rw [Array.toList_push]
      exact keysOnce_append _ k rfl _ h2 (by rw [h3, hn])
    · intro j
      rw [Array.toList_push, mget_append, h3]
      by_cases hj : j = k
      · subst hj; simp [hn, mget]
      · simp [hj, mget, Ne.symm hj]
  · exact ⟨rfl, rfl, rfl, by simp, fun j _ hj => (MapKept.heap_set hb).2 j hj⟩

/-- A key that is there is taken out. -/
theorem run_delete_int {w : World} {b : Nat} {f : Int → Option Value} (h : mapAt w b f) (k : Int) (hs : (f k).isSome = true) :
    ∃ w', (∀ ty, (Builtin.delete_ #[T, K] ty #[.map (some b), .int .i64 k]).run P w = .ok (.tuple #[]) w') ∧ mapAt w' b (fun j => if j = k then none else f j) ∧ Upon (· = b) w w' := by
  obtain ⟨es, c, hb, h1, h2, h3⟩ := h
  obtain ⟨r, hr, hm, hi⟩ := findNow_mget k es.toList 0 h1
  have hck := MapKept.run_checkKey (P := P) (w := w) (kt := K) (k := .int .i64 k) hK (by trivial) es.isEmpty 9999
  have hfk := MapKept.run_findKey (P := P) (w := w) hK hr
  rw [h3] at hm
  obtain ⟨⟨i, v⟩, rfl⟩ : ∃ x, r = some x := by
    cases r with
    | none => rw [← hm] at hs; cases hs
    | some x => exact ⟨x, rfl⟩
  obtain ⟨_, e, he, hek⟩ := hi i v rfl
  simp only [Nat.sub_zero] at he
  refine ⟨{ w with heap := w.heap.setIfInBounds b (.map (es.eraseIdxIfInBounds i) c) }, ?_, ?_, ?_⟩
  · intro ty
    simp [Builtin.delete_, run_underlying hT, Result.andThen, MapKept.run_getObj_map hb, hck, hfk, MapKept.run_setObj_map _ hb]
  · have ht : (es.eraseIdxIfInBounds i).toList = es.toList.eraseIdx i := by
      simp
    refine ⟨_, _, (MapKept.heap_set hb).1, ?_, ?_, ?_⟩
    · intro x hx
      rw [ht] at hx
      exact h1 x (List.mem_of_mem_eraseIdx hx)
    · rw [ht]; exact keysOnce_erase k _ i e h1 h2 he hek
    · intro j
      rw [ht, mget_erase k j _ i e h1 h2 he hek, h3]
  · exact ⟨rfl, rfl, rfl, by simp, fun j _ hj => (MapKept.heap_set hb).2 j hj⟩
end

end Go.Proofs.YtlidegofnkmenaaDoor
