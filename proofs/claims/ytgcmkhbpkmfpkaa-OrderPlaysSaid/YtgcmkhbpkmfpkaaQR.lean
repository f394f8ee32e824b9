/-
  The document's queue: a sorted row that is laid anew at each call ('RefQ'); what stays around a row that is being laid ('AroundQ').
  Conditions: as stated.
-/
import Derived.Test.YtgcmkhbpkmfpkaaQL
import Derived.Deep.RegionLaw
import Derived.IntWalk
namespace Go.Proofs.Ytgcmkhbpkmfpkaa
open Go.ChangeShapes Go.WideShapes Go.ChangeAt Go.RowKit
set_option linter.unusedVariables false
set_option linter.unusedSimpArgs false
set_option maxRecDepth 100000

theorem cell_upon {S : Nat → Prop} {w w' : World} (hu : Upon S w w') {p : Addr} {v : Value} (hc : w.cell? p = some v) (hS : ¬ S p.block) : w'.cell? p = some v := by
  have e := hu.block p.block (World.block_lt_of_cell? w p hc) hS
  unfold World.cell? at hc ⊢
  rw [e]
  exact hc

structure RefQ (w : World) (pr : Nat) (a : Option Addr) (c : Nat) (s : List En) : Prop where
  root : rowAt w pr 28 [.slice a s.length c]
  cells : s.length = 0 ∨ ∃ b o, a = some ⟨b, o, none⟩ ∧ ∀ j u, (pairsL s)[j]? = some u → w.cell? ⟨b, o + j, none⟩ = some u
  cap : s.length ≤ c
  apart : ∀ x, a = some x → x.block ≠ pr
  max : s.length ≤ 100000

def rfootQ (pr : Nat) (a : Option Addr) : Nat → Prop := fun k => k = pr ∨ ∃ x, a = some x ∧ x.block = k

theorem RefQ.upon {w w' : World} {pr : Nat} {a : Option Addr} {c : Nat} {s : List En} (h : RefQ w pr a c s) {S : Nat → Prop} (hu : Upon S w w') (hS : ∀ k, rfootQ pr a k → ¬ S k) : RefQ w' pr a c s :=
  ⟨h.root.upon hu (hS pr (.inl rfl)), by
    rcases h.cells with h0 | ⟨b, o, e, hc⟩
    · exact .inl h0
    · exact .inr ⟨b, o, e, fun j u hj => cell_upon hu (hc j u hj) (hS b (.inr ⟨_, e, rfl⟩))⟩, h.cap, h.apart, h.max⟩
theorem RefQ.below {w w' : World} {pr : Nat} {a : Option Addr} {c : Nat} {s : List En} (h : RefQ w pr a c s) (hb : Below w.heap.size w w') : RefQ w' pr a c s :=
  h.upon (S := fun _ => False) (Upon.of_below hb) fun _ _ h => h
theorem RefQ.reads {w : World} {pr : Nat} {a : Option Addr} {c : Nat} {s : List En} (h : RefQ w pr a c s) : readsAt w (.slice a s.length c) s.length (pairsL s) := ⟨a, c, rfl, h.cells⟩
theorem RefQ.cell {w : World} {pr : Nat} {a : Option Addr} {c : Nat} {s : List En} (h : RefQ w pr a c s) {i : Nat} (hi : i < s.length) :
    ∃ b o, a = some ⟨b, o, none⟩ ∧ w.cell? ⟨b, o + i * 2, none⟩ = some (.int .i64 s[i].1) ∧ w.cell? ⟨b, o + i * 2 + 1, none⟩ = some (.int .i64 s[i].2) := by
  rcases h.cells with h0 | ⟨b, o, e, hc⟩
  · omega
  · obtain ⟨x1, x2⟩ := pairsL_get s i hi
    exact ⟨b, o, e, hc _ _ x1, hc _ _ x2⟩
theorem RefQ.of_owns {w : World} {pr B : Nat} {a : Option Addr} {n c : Nat} {s : List En} (hr : rowAt w pr 28 [.slice a n c]) (ho : w.ownsRow B 35 2 (.slice a n c) s.length (pairsL s)) (hp : pr < B) (hm : s.length ≤ 100000) :
    RefQ w pr a c s ∧ ∀ x, a = some x → B ≤ x.block := by
  rcases owns_parts ho with ⟨h1, h2, h3⟩ | ⟨g, cap, rest, h1, h2, h3, h4, h5, h6, _⟩
  · cases h1
    exact ⟨⟨by rw [h2]; exact hr, .inl h2, by omega, (fun x hx => by cases hx), hm⟩, fun x hx => by cases hx⟩
  · cases h1
    refine ⟨⟨hr, .inr ⟨g, 0, rfl, fun j u hj => ?_⟩, h6, fun x hx => ?_, hm⟩, fun x hx => ?_⟩
    · rw [h3.cell, Nat.zero_add, List.getElem?_append_left (List.getElem?_eq_some_iff.1 hj).1]
      exact hj
    · cases hx; show g ≠ pr; omega
    · cases hx; exact h2

/-- The world around while a row is laid anew. -/
structure AroundQ (w0 : World) (pr : Nat) (a : Option Addr) (c : Nat) (s : List En) (w' : World) : Prop where
  ref : RefQ w' pr a c s
  below : Below w0.heap.size w0 w'
  low : ∀ k, rfootQ pr a k → s.length = 0 ∨ k < w0.heap.size
  pl : pr < w0.heap.size

theorem AroundQ.start {w : World} {pr : Nat} {a : Option Addr} {c : Nat} {s : List En} (h : RefQ w pr a c s) : AroundQ w pr a c s w.drew :=
  ⟨h.upon (Upon.drewN (fun _ => False) w 1) fun _ _ h => h, below_draws (Below.refl _ w) 1, by
    rintro k (rfl | ⟨x, hx, rfl⟩)
    · exact .inr h.root.lt
    · by_cases h0 : s.length = 0
      · exact .inl h0
      · obtain ⟨b, o, e, c1, _⟩ := h.cell (i := 0) (by omega)
        rw [hx] at e
        cases e
        exact .inr (World.block_lt_of_cell? w _ c1), h.root.lt⟩
theorem AroundQ.alloc {w0 w : World} {pr : Nat} {a : Option Addr} {c : Nat} {s : List En} (h : AroundQ w0 pr a c s w) (o : Obj) : AroundQ w0 pr a c s (w.alloc o) :=
  ⟨h.ref.upon (Upon.alloc (fun _ => False) _ _) fun _ _ h => h, h.below.alloc h.below.size _, h.low, h.pl⟩
theorem AroundQ.start1 {w : World} {pr : Nat} {a : Option Addr} {c : Nat} {s : List En} (h : RefQ w pr a c s) (o : Obj) : AroundQ w pr a c s (w.alloc o).drew := (AroundQ.start h).alloc o
theorem AroundQ.root {w0 w : World} {pr : Nat} {a : Option Addr} {c : Nat} {s : List En} (h : AroundQ w0 pr a c s w) : w.cell? ⟨pr, 0, none⟩ = some (.slice a s.length c) := (h.ref.root.cell 0).trans rfl
theorem RefQ.upon0 {w w' : World} {pr : Nat} {a : Option Addr} {c : Nat} {s : List En} (h : RefQ w pr a c s) {S : Nat → Prop} (hu : Upon S w w') (hS : ∀ k, rfootQ pr a k → s.length = 0 ∨ ¬ S k) (hp : ¬ S pr) : RefQ w' pr a c s := by
  by_cases h0 : s.length = 0
  · exact ⟨h.root.upon hu hp, .inl h0, h.cap, h.apart, h.max⟩
  · exact h.upon hu fun k hk => (hS k hk).resolve_left h0
theorem AroundQ.grown {w0 w w' : World} {pr n : Nat} {a : Option Addr} {c : Nat} {s : List En} {v : Value} {xs : List Value} {e : TypeId} {size : Nat} (h : AroundQ w0 pr a c s w) (hown : w.ownsRow w0.heap.size e size v n xs) (hg : w.grownBy w' v.ownBlock) : AroundQ w0 pr a c s w' :=
  ⟨h.ref.upon0 (Upon.grown (S := fun b => w0.heap.size ≤ b) hg fun k hk => (hown.lt k hk).1) (fun k hk => (h.low k hk).imp_right fun hl hb => by omega) (by have := h.pl; omega),
    h.below.grown hg h.below.size fun k hk => (hown.lt k hk).1, h.low, h.pl⟩

theorem length_pairsL_take (s : List En) (i : Nat) (h : i ≤ s.length) : (pairsL (s.take i)).length = i * 2 := by rw [length_pairsL, List.length_take, Nat.min_eq_left h]
theorem length_pairsL_drop (s : List En) (i : Nat) : (pairsL (s.drop i)).length = (s.length - i) * 2 := by rw [length_pairsL, List.length_drop]
theorem pairsL_drop_get : ∀ (s : List En) (i j : Nat), (pairsL (s.drop i))[j]? = (pairsL s)[i * 2 + j]?
  | [], i, j => by rw [List.drop_nil]; simp [pairsL]
  | r :: rs, 0, j => by simp
  | r :: rs, i + 1, j => by
    have h := pairsL_drop_get rs i j
    have e : (i + 1) * 2 + j = i * 2 + j + 1 + 1 := by omega
    rw [e, List.drop_succ_cons, h]
    simp [pairsL]
theorem pairsL_take_get (s : List En) (i j : Nat) (u : Value) (h : (pairsL (s.take i))[j]? = some u) : (pairsL s)[j]? = some u := by
  have e : pairsL s = pairsL (s.take i) ++ pairsL (s.drop i) := by
    unfold pairsL
    rw [← List.flatMap_append, List.take_append_drop]
  rw [e, List.getElem?_append_left (List.getElem?_eq_some_iff.1 h).1]
  exact h
theorem AroundQ.to_src {w0 w : World} {pr : Nat} {a : Option Addr} {c : Nat} {s : List En} (h : AroundQ w0 pr a c s w) {i : Nat} (hi : i ≤ s.length) :
    i = 0 ∨ ∃ ad, a = some ad ∧ ∀ j u, (pairsL (s.take i))[j]? = some u → w.cell? (ad.add j) = some u := by
  rcases h.ref.cells with h0 | ⟨b, o, rfl, hc⟩
  · exact .inl (by omega)
  · refine .inr ⟨_, rfl, fun j u hj => ?_⟩
    rw [Addr.add_lit]
    exact hc j u (pairsL_take_get s i j u hj)
theorem AroundQ.from_src {w0 w : World} {pr : Nat} {a : Option Addr} {c : Nat} {s : List En} (h : AroundQ w0 pr a c s w) {i : Nat} (hi : i ≤ s.length) :
    s.length - i = 0 ∨ ∃ ad, (if c = i then a else a.map (·.add (i * 2))) = some ad ∧ ∀ j u, (pairsL (s.drop i))[j]? = some u → w.cell? (ad.add j) = some u := by
  by_cases h0 : s.length - i = 0
  · exact .inl h0
  · right
    have hcap := h.ref.cap
    rcases h.ref.cells with h1 | ⟨b, o, rfl, hc⟩
    · omega
    · rw [if_neg (by omega)]
      refine ⟨_, rfl, fun j u hj => ?_⟩
      rw [pairsL_drop_get] at hj
      have e1 : ((Addr.add ⟨b, o, none⟩ (i * 2)).add j) = ⟨b, o + (i * 2 + j), none⟩ := by rw [Addr.add_lit, Addr.add_lit, Nat.add_assoc]
      dsimp only
      rw [e1]
      exact hc _ _ hj

theorem step_append_aroundQ {w w0 : World} {pr : Nat} {ra : Option Addr} {rc : Nat} {rs : List En} {i : TypeInfo} (hi : Try.prog.info? 35 = some i) (hz : i.zero = some (.agg #[.int .i64 0, .int .i64 0])) (hsize : i.size = 2) (hby : i.bytes = 16)
    {ops : Array Oper} {o : Oper} {a : Act} {K : Act → World → Prop} {Q : Exit → Act → World → Prop} {E : Prop} (hgd : o.guard = none) (s x : Operand)
    (ho : o.op = .call { callee := .builtin .append, args := #[s, x], argTypes := #[26, 26] }) (hA : AroundQ w0 pr ra rc rs w)
    (v : Value) (n : Nat) (xs : List Value) (hs : a.eval s = v) (hown : w.ownsRow w0.heap.size 35 2 v n xs)
    (xa : Option Addr) (m c : Nat) (news : List Value) (hx : a.eval x = .slice xa m c) (hl : news.length = m * 2) (hsrc : m = 0 ∨ ∃ ad, xa = some ad ∧ ∀ j u, news[j]? = some u → w.cell? (ad.add j) = some u) (h1 : ∀ u ∈ news, u.oneCell' = true)
    (h63 : n + m ≤ 200002)
    (h : ∀ v' w', w'.ownsRow w0.heap.size 35 2 v' (n + m) (xs ++ news) → AroundQ w0 pr ra rc rs w' → w'.cell? ⟨pr, 0, none⟩ = some (.slice ra rs.length rc) → w'.frozen? ⟨pr, 0, none⟩ = false → K (a.put o.dst v') w') :
    if Region.wanted o (yielded ops a.tmps) = true then Oper.wp Try.prog o a w K Q else E :=
  step_append_w hgd s x _ ho w0.heap.size 35 i (.agg #[.int .i64 0, .int .i64 0]) 2 16 under_pairsI hi hz hsize hby rfl (by decide) v n xs hs hown xa m c news hx hl hsrc h1 (by simp only [maxLen]; omega) (by omega) hA.below.size
    fun v' w' h2 h3 _ => h v' w' h2 (hA.grown hown h3) (hA.grown hown h3).root ((hA.grown hown h3).ref.root.free 0)

/-- What the statement that lays the row anew leaves. -/
def RelaidQ (pr : Nat) (s' : List En) (w w' : World) : Prop :=
  ∃ a' c', RefQ w' pr a' c' s' ∧ Upon (fun b => b = pr) w w' ∧ ∀ x, a' = some x → w.heap.size ≤ x.block

theorem relaidQ_end {w0 w : World} {pr c : Nat} {a a2 : Option Addr} {n2 c2 n : Nat} {s s' : List En} {xs : List Value} (hown : w.ownsRow w0.heap.size 35 2 (.slice a2 n2 c2) n xs) (hA : AroundQ w0 pr a c s w) (hx : xs = pairsL s') (hn : n = s'.length) (hm : s'.length ≤ 100000) :
    RelaidQ pr s' w0 (w.setCell ⟨pr, 0, none⟩ (.slice a2 n2 c2)) := by
  subst hx hn
  have hu : Upon (fun b => b = pr) w (w.setCell ⟨pr, 0, none⟩ (.slice a2 n2 c2)) := Upon.setCell _ _ rfl
  have hr : rowAt (w.setCell ⟨pr, 0, none⟩ (.slice a2 n2 c2)) pr 28 [.slice a2 n2 c2] := hA.ref.root.set 0 _
  have ho := owns_upon hown hu fun g hg e => by have := (hown.lt g hg).1; have := hA.pl; omega
  obtain ⟨h1, h2⟩ := RefQ.of_owns hr ho hA.pl hm
  exact ⟨a2, c2, h1, (Upon.of_below hA.below).trans hu fun _ _ h => h, h2⟩

theorem rdrop_no {w : World} {pr : Nat} {a : Option Addr} {c : Nat} {s : List En} (h : RefQ w pr a c s) {k : Int} (hk : ∀ x ∈ s, x.1 ≠ k) :
    Calls Try.prog 12 #[.pointer (some ⟨pr, 0, none⟩), .int .i64 k] w fun e w' => e = .returned (.bool false) ∧ w = w' := by
  have c0 : w.cell? ⟨pr, 0, none⟩ = some (.slice a s.length c) := (h.root.cell 0).trans rfl
  have hm := h.max
  have HC : Hid (∀ i (hi : i < s.length), ∃ b o, a = some ⟨b, o, none⟩ ∧ w.cell? ⟨b, o + i * 2, none⟩ = some (.int .i64 s[i].1)) := fun i hi => by
    obtain ⟨b, o, e, c1, _⟩ := h.cell hi
    exact ⟨b, o, e, c1⟩
  have HK := Lib.hid hk
  clear h hk
  go_enter Try.func12, Try.ntmps12
  go_wp2_with fail
  go_loop [5] (fun iv => ∃ i : Nat, i ≤ s.length ∧ iv = .int .i64 i) (fun iv => s.length - (intOf iv).toNat)
  case atStart => exact ⟨0, Nat.zero_le _, rfl⟩
  case round =>
    obtain ⟨i, hi, rfl⟩ := hrel
    by_cases hlt : i < s.length
    · obtain ⟨b, o, hab, c1⟩ := HC.out i hlt
      cases hab
      have f1 : (s[i].1 == k) = false := by simpa using HK.out _ (List.getElem_mem hlt)
      have hii : (i : Int) < (s.length : Int) := by omega
      go_wp2_with fail
      go_round
      case rel => exact ⟨i + 1, by omega, by go_num⟩
      case measure => simp [intOf]; omega
    · go_wp2_with fail
      go_ret
      exact ⟨rfl, rfl⟩

theorem but_mid {l1 l2 : List En} {x : En} (hn : ((l1 ++ x :: l2).map (·.1)).Nodup) : l1 ++ l2 = (l1 ++ x :: l2).filter fun y => decide (y.1 ≠ x.1) := by
  have hp : ∀ y, y ∈ l1 ++ l2 → y.1 ≠ x.1 := by
    intro y hy ey
    simp only [List.map_append, List.map_cons] at hn
    rw [List.nodup_append] at hn
    obtain ⟨n1, n2, n3⟩ := hn
    rw [List.nodup_cons] at n2
    rcases List.mem_append.1 hy with hy | hy
    · exact n3 y.1 (List.mem_map_of_mem hy) x.1 (by simp) ey
    · exact n2.1 (ey ▸ List.mem_map_of_mem hy)
  rw [List.filter_append, List.filter_cons_of_neg (by simp), ← List.filter_append]
  exact (List.filter_eq_self.2 fun y hy => by simpa using hp y hy).symm
theorem but_at {s : List En} (hn : (s.map (·.1)).Nodup) {i : Nat} (hi : i < s.length) {k : Int} (hk : s[i].1 = k) : s.take i ++ s.drop (i + 1) = s.filter fun x => decide (x.1 ≠ k) := by
  have e : s.take i ++ s[i] :: s.drop (i + 1) = s := by rw [← List.drop_eq_getElem_cons hi, List.take_append_drop]
  have h := but_mid (l1 := s.take i) (l2 := s.drop (i + 1)) (x := s[i]) (by rw [e]; exact hn)
  rw [e, hk] at h
  exact h

end Go.Proofs.Ytgcmkhbpkmfpkaa
