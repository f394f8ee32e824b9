/-
  'Free' and 'Cut' of the document's arena: its row of regions is laid anew.
  Conditions: as each states.
-/
import Derived.Test.YtnjpjhlodamanaaRef
import Derived.Deep.RegionLaw
namespace Go.Proofs.Ytnjpjhlodamanaa
open Go.ChangeShapes Go.WideShapes Go.ChangeAt Go.RowKit
set_option linter.unusedVariables false
set_option linter.unusedSimpArgs false
set_option maxRecDepth 100000

section
variable {P : Program}
/-- append onto a row of the call's own, of whatever slice: nil and empty ones too. -/
theorem run_append_any (w : World) (t ty : TypeId) (base : Nat) (e : TypeId) (i : TypeInfo) (z : Value) (size bytes : Nat) (ht : P.underlying t = some (.slice e)) (hi : P.info? e = some i) (hz : i.zero = some z)
    (hsize : i.size = size) (hby : i.bytes = bytes) (hzs : z.cells.size = size) (hsz : 0 < size)
    (v : Value) (n : Nat) (xs : List Value) (hown : w.ownsRow base e size v n xs)
    (xa : Option Addr) (m c : Nat) (news : List Value) (hl : news.length = m * size) (hsrc : m = 0 ∨ ∃ ad, xa = some ad ∧ ∀ j u, news[j]? = some u → w.cell? (ad.add j) = some u) (h1 : ∀ u ∈ news, u.oneCell' = true)
    (h63 : n + m ≤ maxLen) (hbytes : (n + m) * bytes ≤ 140737488355328) (hbase : base ≤ w.heap.size) :
    ∃ v' w', (Builtin.append_ #[t, t] ty #[v, .slice xa m c]).run P w = .ok v' w' ∧ w'.ownsRow base e size v' (n + m) (xs ++ news) ∧ w.grownBy w' v.ownBlock ∧ (v'.ownBlock = v.ownBlock ∨ v'.ownBlock = some w.heap.size) := by
  by_cases h0 : m = 0
  · subst h0
    have hn : news = [] := List.length_eq_zero_iff.1 (by simpa using hl)
    subst hn
    refine ⟨v, w, ?_, by simpa using hown, ⟨rfl, rfl, rfl, Nat.le_refl _, fun _ _ _ => rfl⟩, .inl rfl⟩
    have hf : (Builtin.firstCells i.size 0 (.slice xa 0 c)).run P w = .ok #[] w := by
      cases xa with
      | none => simp [Builtin.firstCells]
      | some b => exact run_firstCells_some w i.size 0 b 0 c [] (by simp) (by simp)
    rcases hown.2 with ⟨rfl, rfl⟩ | ⟨g, cap, cur, rfl, _, _, hnc, _⟩
    · simp [Builtin.append_, run_underlying ht, sizeOf, typeInfo, hi, Builtin.lenOf, hf]
    · simp [Builtin.append_, run_underlying ht, sizeOf, typeInfo, hi, Builtin.lenOf, hf, hnc, storeCells]
  · obtain ⟨ad, rfl, hc⟩ := hsrc.resolve_left h0
    obtain ⟨v', w', a, b, c', _, d⟩ := run_append_own_at w base t ty e i z size bytes ht hi hz hsize hby hzs hsz v n xs hown ad m c news hl hc h1 h63 hbytes hbase
    exact ⟨v', w', a, b, c', d⟩

theorem step_append_any {w : World} {ops : Array Oper} {o : Oper} {a : Act} {K : Act → World → Prop} {Q : Exit → Act → World → Prop} {E : Prop} (hgd : o.guard = none) (s x : Operand) (t : TypeId)
    (ho : o.op = .call { callee := .builtin .append, args := #[s, x], argTypes := #[t, t] })
    (base : Nat) (e : TypeId) (i : TypeInfo) (z : Value) (size bytes : Nat) (ht : P.underlying t = some (.slice e)) (hi : P.info? e = some i) (hz : i.zero = some z)
    (hsize : i.size = size) (hby : i.bytes = bytes) (hzs : z.cells.size = size) (hsz : 0 < size)
    (v : Value) (n : Nat) (xs : List Value) (hs : a.eval s = v) (hown : w.ownsRow base e size v n xs)
    (xa : Option Addr) (m c : Nat) (news : List Value) (hx : a.eval x = .slice xa m c) (hl : news.length = m * size) (hsrc : m = 0 ∨ ∃ ad, xa = some ad ∧ ∀ j u, news[j]? = some u → w.cell? (ad.add j) = some u) (h1 : ∀ u ∈ news, u.oneCell' = true)
    (h63 : n + m ≤ maxLen) (hbytes : (n + m) * bytes ≤ 140737488355328) (hbase : base ≤ w.heap.size)
    (h : ∀ v' w', w'.ownsRow base e size v' (n + m) (xs ++ news) → w.grownBy w' v.ownBlock → (v'.ownBlock = v.ownBlock ∨ v'.ownBlock = some w.heap.size) → K (a.put o.dst v') w') :
    if Region.wanted o (yielded ops a.tmps) = true then Oper.wp P o a w K Q else E := by
  have hw : Region.wanted o (yielded ops a.tmps) = true := by simp [Region.wanted, hgd]
  rw [if_pos hw]
  obtain ⟨v', w', hr, h2, h3, h4⟩ := run_append_any (P := P) w t o.type base e i z size bytes ht hi hz hsize hby hzs hsz v n xs hown xa m c news hl hsrc h1 h63 hbytes hbase
  unfold Oper.wp execOp
  simp only [ho, resolve, invoke, builtin, Sem.run_bind, Sem.run_pure, Result.andThen_ok, List.map_toArray, List.map_cons, List.map_nil, hs, hx, hr]
  exact h v' w' h2 h3 h4
theorem run_slice_to (t e : TypeId) (ht : P.underlying t = some (.slice e)) {i : TypeInfo} (hi : P.info? e = some i) (a : Option Addr) {n c k : Nat} (hk : k ≤ n) (hn : n ≤ c) (w : World) :
    (Instr.slice t (.slice a n c) none (some (.int .i64 (k : Int))) none).run P w = .ok (.slice a k c) w := by
  have h1 : (0 : Int) ≤ k ∧ (k : Int) ≤ c := by omega
  have h2 : (a.map fun x => x.add 0) = a := by cases a <;> simp [Addr.add]
  have h3 : k ≤ c := by omega
  simp [Instr.slice, Instr.sliceBounds, Instr.sliceBound, asIntOf, run_underlying ht, sizeOf, typeInfo, hi, h2, h3]
theorem run_slice_from (t e : TypeId) (ht : P.underlying t = some (.slice e)) {i : TypeInfo} (hi : P.info? e = some i) (a : Option Addr) {n c k : Nat} (hk : k ≤ n) (w : World) :
    (Instr.slice t (.slice a n c) (some (.int .i64 (k : Int))) none none).run P w = .ok (.slice (if c = k then a else a.map (·.add (k * i.size))) (n - k) (c - k)) w := by
  have h1 : (0 : Int) ≤ k ∧ (k : Int) ≤ n := by omega
  simp [Instr.slice, Instr.sliceBounds, Instr.sliceBound, asIntOf, run_underlying ht, sizeOf, typeInfo, hi, hk]

end

theorem oneCell_pairs (rs : List (Nat × Nat)) : ∀ v ∈ pairs rs, v.oneCell' = true := by
  intro v hv
  simp only [pairs, List.mem_flatMap, List.mem_cons, List.not_mem_nil, or_false] at hv
  obtain ⟨r, _, rfl | rfl⟩ := hv <;> rfl

/-- The world around an arena's row of regions while it is laid anew: nothing of the arena turns, nothing that was there ahead of it. -/
structure Around (w0 : World) (p bw : Nat) (rv : Value) (A : Ar) (w' : World) : Prop where
  ref : RefIn w' p bw rv A
  below : Below w0.heap.size w0 w'
  low : ∀ k, rfoot p bw rv k → k < w0.heap.size

theorem RefIn.lt {w : World} {p bw : Nat} {rv : Value} {A : Ar} (h : RefIn w p bw rv A) : ∀ k, rfoot p bw rv k → k < w.heap.size := by
  rintro k (rfl | rfl | hk)
  · exact h.root.lt
  · exact h.words.lt
  · exact (h.regs.lt k hk).2
theorem Around.start {w : World} {p bw : Nat} {rv : Value} {A : Ar} (h : RefIn w p bw rv A) : Around w p bw rv A w.drew :=
  ⟨RefIn.upon h (Upon.drewN (fun _ => False) w 1) fun _ _ h => h, below_draws (Below.refl _ w) 1, h.lt⟩
theorem Around.alloc {w0 w : World} {p bw : Nat} {rv : Value} {A : Ar} (h : Around w0 p bw rv A w) (o : Obj) : Around w0 p bw rv A (w.alloc o) :=
  ⟨RefIn.upon h.ref (Upon.alloc (fun _ => False) _ _) fun _ _ h => h, h.below.alloc h.below.size _, h.low⟩
theorem Around.start1 {w : World} {p bw : Nat} {rv : Value} {A : Ar} (h : RefIn w p bw rv A) (o : Obj) : Around w p bw rv A (w.alloc o).drew :=
  (Around.start h).alloc o
theorem owns_empty (w : World) (t : TypeId) : (w.alloc (.cells #[] t)).drew.ownsRow w.heap.size t 2 (.slice (some ⟨w.heap.size, 0, none⟩) 0 0) 0 [] :=
  World.ownsRow_made w.drew #[] 0 (Nat.le_refl _) (Nat.zero_le _) (by simp)
theorem Around.root {w0 w : World} {p bw : Nat} {rv : Value} {A : Ar} (h : Around w0 p bw rv A w) : w.cell? ⟨p, 1, none⟩ = some rv := (RefIn.root h.ref).cell 1 |>.trans rfl
theorem Around.grown {w0 w w' : World} {p bw n : Nat} {rv v : Value} {A : Ar} {xs : List Value} {e : TypeId} {size : Nat} (h : Around w0 p bw rv A w) (hown : w.ownsRow w0.heap.size e size v n xs) (hg : w.grownBy w' v.ownBlock) : Around w0 p bw rv A w' :=
  ⟨RefIn.upon h.ref (Upon.grown (S := fun b => w0.heap.size ≤ b) hg fun k hk => (hown.lt k hk).1) fun k hk hb => by have := h.low k hk; omega,
    h.below.grown hg h.below.size fun k hk => (hown.lt k hk).1, h.low⟩

theorem length_pairs_take (rs : List (Nat × Nat)) (i : Nat) (h : i ≤ rs.length) : (pairs (rs.take i)).length = i * 2 := by rw [length_pairs, List.length_take, Nat.min_eq_left h]
theorem length_pairs_drop (rs : List (Nat × Nat)) (i : Nat) : (pairs (rs.drop i)).length = (rs.length - i) * 2 := by rw [length_pairs, List.length_drop]
theorem pairs_drop_get : ∀ (rs : List (Nat × Nat)) (i j : Nat), (pairs (rs.drop i))[j]? = (pairs rs)[i * 2 + j]?
  | [], i, j => by rw [List.drop_nil]; rfl
  | r :: rs, 0, j => by simp
  | r :: rs, i + 1, j => by
    have h := pairs_drop_get rs i j
    have e : (i + 1) * 2 + j = i * 2 + j + 1 + 1 := by omega
    rw [e, List.drop_succ_cons, h]
    simp [pairs]
theorem pairs_take_get (rs : List (Nat × Nat)) (i j : Nat) (hi : i ≤ rs.length) (u : Value) (h : (pairs (rs.take i))[j]? = some u) : (pairs rs)[j]? = some u := by
  have e : pairs rs = pairs (rs.take i) ++ pairs (rs.drop i) := by
    unfold pairs
    rw [← List.flatMap_append, List.take_append_drop]
  rw [e, List.getElem?_append_left (List.getElem?_eq_some_iff.1 h).1]
  exact h

/-- What a[:i] of the row reads as, in whatever world around. -/
theorem Around.to_src {w0 w : World} {p bw : Nat} {a : Option Addr} {c : Nat} {A : Ar} (h : Around w0 p bw (.slice a A.rs.length c) A w) {i : Nat} (hi : i ≤ A.rs.length) :
    i = 0 ∨ ∃ ad, a = some ad ∧ ∀ j u, (pairs (A.rs.take i))[j]? = some u → w.cell? (ad.add j) = some u := by
  by_cases h0 : i = 0
  · exact .inl h0
  · right
    rcases owns_parts (RefIn.regs h.ref) with ⟨_, h1, _⟩ | ⟨g, cap, rest, h1, _, hr, _⟩
    · omega
    · cases h1
      refine ⟨_, rfl, fun j u hj => ?_⟩
      have := pairs_take_get A.rs i j hi u hj
      rw [Addr.add_lit, hr.cell, Nat.zero_add, List.getElem?_append_left (List.getElem?_eq_some_iff.1 this).1]
      exact this
/-- What a[i:] of the row reads as. -/
theorem Around.from_src {w0 w : World} {p bw : Nat} {a : Option Addr} {c : Nat} {A : Ar} (h : Around w0 p bw (.slice a A.rs.length c) A w) {i : Nat} (hi : i ≤ A.rs.length) :
    A.rs.length - i = 0 ∨ ∃ ad, (if c = i then a else a.map (·.add (i * 2))) = some ad ∧ ∀ j u, (pairs (A.rs.drop i))[j]? = some u → w.cell? (ad.add j) = some u := by
  by_cases h0 : A.rs.length - i = 0
  · exact .inl h0
  · right
    rcases owns_parts (RefIn.regs h.ref) with ⟨_, h1, _⟩ | ⟨g, cap, rest, h1, _, hr, _, _, hn, _⟩
    · omega
    · cases h1
      rw [if_neg (by omega)]
      refine ⟨_, rfl, fun j u hj => ?_⟩
      rw [pairs_drop_get] at hj
      have e1 : ((Addr.add ⟨g, 0, none⟩ (i * 2)).add j) = ⟨g, i * 2 + j, none⟩ := by rw [Addr.add_lit, Addr.add_lit, Nat.zero_add]
      dsimp only
      rw [e1, hr.cell, List.getElem?_append_left (List.getElem?_eq_some_iff.1 hj).1]
      exact hj

theorem step_append_around {w w0 : World} {p bw : Nat} {rv : Value} {A : Ar} {i : TypeInfo} (hi : Try.prog.info? 94 = some i) (hz : i.zero = some (.agg #[.int .i64 0, .int .i64 0])) (hsize : i.size = 2) (hby : i.bytes = 16)
    {ops : Array Oper} {o : Oper} {a : Act} {K : Act → World → Prop} {Q : Exit → Act → World → Prop} {E : Prop} (hgd : o.guard = none) (s x : Operand)
    (ho : o.op = .call { callee := .builtin .append, args := #[s, x], argTypes := #[88, 88] }) (hA : Around w0 p bw rv A w)
    (v : Value) (n : Nat) (xs : List Value) (hs : a.eval s = v) (hown : w.ownsRow w0.heap.size 94 2 v n xs)
    (xa : Option Addr) (m c : Nat) (news : List Value) (hx : a.eval x = .slice xa m c) (hl : news.length = m * 2) (hsrc : m = 0 ∨ ∃ ad, xa = some ad ∧ ∀ j u, news[j]? = some u → w.cell? (ad.add j) = some u) (h1 : ∀ u ∈ news, u.oneCell' = true)
    (h63 : n + m ≤ 40000)
    (h : ∀ v' w', w'.ownsRow w0.heap.size 94 2 v' (n + m) (xs ++ news) → Around w0 p bw rv A w' → w'.cell? ⟨p, 1, none⟩ = some rv → w'.frozen? ⟨p, 1, none⟩ = false → K (a.put o.dst v') w') :
    if Region.wanted o (yielded ops a.tmps) = true then Oper.wp Try.prog o a w K Q else E :=
  step_append_any hgd s x _ ho w0.heap.size 94 i (.agg #[.int .i64 0, .int .i64 0]) 2 16 under_pairs hi hz hsize hby rfl (by decide) v n xs hs hown xa m c news hx hl hsrc h1 (by simp only [maxLen]; omega) (by omega) hA.below.size
    fun v' w' h2 h3 _ => h v' w' h2 (hA.grown hown h3) (hA.grown hown h3).root ((hA.grown hown h3).ref.root.free 1)

theorem Around.stored {w0 w : World} {p bw n : Nat} {rv v : Value} {A : Ar} {xs : List Value} (hA : Around w0 p bw rv A w) (hown : w.ownsRow w0.heap.size 94 2 v n xs) :
    (w.setCell ⟨p, 1, none⟩ v).ownsRow w0.heap.size 94 2 v n xs ∧ rowAt (w.setCell ⟨p, 1, none⟩ v) p 90 [.slice (some ⟨bw, 0, none⟩) A.ws.length A.ws.length, v] ∧ rowAt (w.setCell ⟨p, 1, none⟩ v) bw 39 (words A.ws) ∧ Upon (fun b => b = p) w0 (w.setCell ⟨p, 1, none⟩ v) := by
  have hp := hA.low p (.inl rfl)
  have hu : Upon (fun b => b = p) w (w.setCell ⟨p, 1, none⟩ v) := Upon.setCell _ _ rfl
  refine ⟨owns_upon hown hu fun g hg e => ?_, by have := hA.ref.root.set 1 v; simpa using this, hA.ref.words.upon hu fun e => hA.ref.pw e.symm, (Upon.of_below hA.below).trans hu fun _ _ h => h⟩
  have := (hown.lt g hg).1
  omega
theorem refFree_end {w0 w : World} {p bw i cap : Nat} {a a2 : Option Addr} {n2 : Nat} {c2 : Nat} {A : Ar} (hown : w.ownsRow w0.heap.size 94 2 (.slice a2 n2 c2) (i + (A.rs.length - (i + 1))) (pairs (A.rs.take i) ++ pairs (A.rs.drop (i + 1)))) (hA : Around w0 p bw (.slice a A.rs.length cap) A w) (hl : i < A.rs.length) :
    ∃ v', (w.setCell ⟨p, 1, none⟩ (.slice a2 n2 c2)).ownsRow w0.heap.size 94 2 v' (A.rs.length - 1) (pairs (A.rs.take i ++ A.rs.drop (i + 1))) ∧ rowAt (w.setCell ⟨p, 1, none⟩ (.slice a2 n2 c2)) p 90 [.slice (some ⟨bw, 0, none⟩) A.ws.length A.ws.length, v'] ∧ rowAt (w.setCell ⟨p, 1, none⟩ (.slice a2 n2 c2)) bw 39 (words A.ws) ∧ Upon (fun b => b = p) w0 (w.setCell ⟨p, 1, none⟩ (.slice a2 n2 c2)) := by
  obtain ⟨h1, h2, h3, h4⟩ := hA.stored hown
  have e1 : i + (A.rs.length - (i + 1)) = A.rs.length - 1 := by omega
  have e2 : (pairs (A.rs.take i) ++ pairs (A.rs.drop (i + 1))) = pairs (A.rs.take i ++ A.rs.drop (i + 1)) := by simp [pairs]
  rw [e1, e2] at h1
  exact ⟨_, h1, h2, h3, h4⟩

end Go.Proofs.Ytnjpjhlodamanaa
