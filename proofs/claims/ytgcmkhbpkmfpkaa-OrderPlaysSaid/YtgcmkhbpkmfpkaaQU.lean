/-
  The program's queue and the document's beside each other, and the boxed step that is done to both ('Duo').
  Conditions: as stated.
-/
import Derived.Test.YtgcmkhbpkmfpkaaQT
import Derived.Test.YtgcmkhbpkmfpkaaQW
namespace Go.Proofs.Ytgcmkhbpkmfpkaa
open Go.ChangeShapes Go.WideShapes Go.ChangeAt Go.RowKit
set_option linter.unusedVariables false
set_option linter.unusedSimpArgs false
set_option maxRecDepth 100000

structure DuoF (B q pr bx : Nat) (xs : List Value) (F : Nat → Prop) (a : Option Addr) (c : Nat) (s1 s2 : List En) (w : World) : Prop where
  l : QH w q F s1
  r : RefQ w pr a c s2
  fp : ¬ F pr
  fa : s2.length = 0 ∨ ∀ x, a = some x → ¬ F x.block
  fB : ∀ k, F k → B ≤ k
  pB : B ≤ pr
  row : rowAt w bx 31 xs
  fx : ¬ F bx
  xp : bx ≠ pr
  nd : (s2.map (·.1)).Nodup

theorem RefQ.old {w : World} {pr : Nat} {a : Option Addr} {c : Nat} {s : List En} (h : RefQ w pr a c s) : s.length = 0 ∨ ∀ x, a = some x → x.block < w.heap.size := by
  rcases h.cells with h0 | ⟨b, o, rfl, hc⟩
  · exact .inl h0
  · by_cases h0 : s.length = 0
    · exact .inl h0
    · obtain ⟨x1, _⟩ := pairsL_get s 0 (by omega)
      exact .inr fun x hx => by cases hx; exact World.block_lt_of_cell? w _ (hc _ _ x1)

theorem DuoF.left {B q pr bx : Nat} {xs : List Value} {F F' : Nat → Prop} {a : Option Addr} {c : Nat} {s1 s1' s2 : List En} {w1 w2 : World} (h : DuoF B q pr bx xs F a c s1 s2 w1) (hq : QH w2 q F' s1') (hs : StepQ F F' w1 w2) (hB : B ≤ w1.heap.size) :
    DuoF B q pr bx xs F' a c s1' s2 w2 ∧ Below B w1 w2 := by
  refine ⟨⟨hq, h.r.upon0 hs.upon (fun k hk => ?_) h.fp, fun hF => ?_, ?_, fun k hk => ?_, h.pB, h.row.upon hs.upon h.fx, fun hF => ?_, h.xp, h.nd⟩, hs.upon.belowB hB h.fB⟩
  · rcases h.fa with h0 | h0
    · exact .inl h0
    · rcases hk with rfl | ⟨x, hx, rfl⟩
      · exact .inr h.fp
      · exact .inr (h0 x hx)
  · rcases hs.foot _ hF with h1 | h1
    · exact h.fp h1
    · have := h.r.root.lt; omega
  · rcases h.fa with h0 | h0
    · exact .inl h0
    · rcases h.r.old with h2 | h2
      · exact .inl h2
      · refine .inr fun x hx hF => ?_
        rcases hs.foot _ hF with h1 | h1
        · exact h0 x hx h1
        · have := h2 x hx; omega
  · rcases hs.foot k hk with h1 | h1
    · exact h.fB k h1
    · omega
  · rcases hs.foot _ hF with h1 | h1
    · exact h.fx h1
    · have := h.row.lt; omega

theorem DuoF.right {B q pr bx : Nat} {xs : List Value} {F : Nat → Prop} {a : Option Addr} {c : Nat} {s1 s2 s2' : List En} {w1 w2 : World} (h : DuoF B q pr bx xs F a c s1 s2 w1) (hr : RelaidQ pr s2' w1 w2) (hnd : (s2'.map (·.1)).Nodup) (hB : B ≤ w1.heap.size) :
    ∃ a' c', DuoF B q pr bx xs F a' c' s1 s2' w2 ∧ Below B w1 w2 := by
  obtain ⟨a', c', hr, hu, ha⟩ := hr
  refine ⟨a', c', ⟨h.l.upon hu fun k hk e => h.fp (e ▸ hk), hr, h.fp, .inr fun x hx hF => ?_, h.fB, h.pB, h.row.upon hu h.xp, h.fx, h.xp, hnd⟩, hu.belowB hB fun k hk => by rw [hk]; exact h.pB⟩
  have := h.l.lt _ hF
  have := ha x hx
  omega

theorem DuoF.more {B q pr bx : Nat} {xs : List Value} {F : Nat → Prop} {a : Option Addr} {c : Nat} {s1 s2 : List En} {w1 w2 : World} (h : DuoF B q pr bx xs F a c s1 s2 w1) (hb : Below w1.heap.size w1 w2) : DuoF B q pr bx xs F a c s1 s2 w2 :=
  ⟨h.l.below hb, h.r.below hb, h.fp, h.fa, h.fB, h.pB, h.row.below hb h.row.lt, h.fx, h.xp, h.nd⟩

def Duo (B q pr bx : Nat) (xs : List Value) (s1 s2 : List En) (w : World) : Prop := B ≤ w.heap.size ∧ ∃ F a c, DuoF B q pr bx xs F a c s1 s2 w
theorem Duo.more {B q pr bx : Nat} {xs : List Value} {s1 s2 : List En} {w1 w2 : World} (h : Duo B q pr bx xs s1 s2 w1) (hb : Below w1.heap.size w1 w2) : Duo B q pr bx xs s1 s2 w2 := by
  obtain ⟨hB, F, a, c, h⟩ := h
  exact ⟨Nat.le_trans hB hb.size, F, a, c, h.more hb⟩
theorem Duo.drew {B q pr bx : Nat} {xs : List Value} {s1 s2 : List En} {w : World} (h : Duo B q pr bx xs s1 s2 w) : Duo B q pr bx xs s1 s2 w.drew := h.more (below_draws (Below.refl _ _) 1)
theorem Duo.x {B q pr bx : Nat} {k0 k1 k2 : Value} {s1 s2 : List En} {w : World} (h : Duo B q pr bx [k0, k1, k2] s1 s2 w) : w.cell? ⟨bx, 0, none⟩ = some k0 ∧ w.cell? ⟨bx, 1, none⟩ = some k1 ∧ w.cell? ⟨bx, 2, none⟩ = some k2 := by
  obtain ⟨hB, F, a, c, h⟩ := h
  exact ⟨(h.row.cell 0).trans rfl, (h.row.cell 1).trans rfl, (h.row.cell 2).trans rfl⟩

def hasK (k : Int) (s : List En) : Bool := s.any fun x => x.1 == k
theorem hasK_yes {k : Int} {s : List En} (h : hasK k s = true) : ∃ x ∈ s, x.1 = k := by simpa [hasK] using h
theorem hasK_no {k : Int} {s : List En} (h : hasK k s = false) : ∀ x ∈ s, x.1 ≠ k := by simpa [hasK] using h
def pushS (k r : Int) (s : List En) : List En := if hasK k s then s else insE (k, r) s
def dropS (k : Int) (s : List En) : List En := s.filter fun x => decide (x.1 ≠ k)
theorem dropS_no {k : Int} {s : List En} (h : hasK k s = false) : dropS k s = s := List.filter_eq_self.2 fun x hx => by simpa using hasK_no h x hx
theorem length_insE' (e : En) (s : List En) : (insE e s).length = s.length + 1 := by rw [(insE_perm e s).length_eq]; rfl
theorem length_pushS (k r : Int) (s : List En) : (pushS k r s).length ≤ s.length + 1 := by
  unfold pushS
  split
  · omega
  · rw [length_insE']; omega
theorem length_dropS (k : Int) (s : List En) : (dropS k s).length ≤ s.length := List.length_filter_le _ _
theorem nodup_ins {e : En} {s : List En} (h : (s.map (·.1)).Nodup) (hk : ∀ x ∈ s, x.1 ≠ e.1) : ((insE e s).map (·.1)).Nodup := by
  rw [((insE_perm e s).map (·.1)).nodup_iff, List.map_cons, List.nodup_cons]
  refine ⟨fun hm => ?_, h⟩
  obtain ⟨x, hx, hxe⟩ := List.mem_map.1 hm
  exact hk x hx hxe
theorem nodup_dropS {k : Int} {s : List En} (h : (s.map (·.1)).Nodup) : ((dropS k s).map (·.1)).Nodup := h.sublist (List.filter_sublist.map _)

section
variable {B q pr bx : Nat} {xs : List Value} {s1 s2 : List En} {w : World}

theorem duo_push (h : Duo B q pr bx xs s1 s2 w) (k r : Int) (hl : s1.length < 1000) {b : Bool} (hb : hasK k s1 = b) :
    Calls Try.prog 8 #[.pointer (some ⟨q, 0, none⟩), .int .i64 k, .int .i64 r] w fun e w' => e = .returned (.bool !b) ∧ Duo B q pr bx xs (pushS k r s1) s2 w' ∧ Below B w w' := by
  obtain ⟨hB, F, a, c, h⟩ := h
  cases b with
  | true =>
    refine (qpush_there h.l (hasK_yes hb) r).mono fun e w' ⟨he, hw⟩ => ⟨he, ?_, ?_⟩
    · rw [← hw]; unfold pushS; rw [hb]; exact ⟨hB, F, a, c, h⟩
    · rw [← hw]; exact Below.refl _ _
  | false =>
    refine (qpush_new h.l (k, r) (hasK_no hb) (by omega)).mono fun e w' ⟨he, G, hq, hs⟩ => ⟨he, ?_⟩
    obtain ⟨h1, h2⟩ := h.left hq hs hB
    refine ⟨⟨Nat.le_trans hB hs.upon.size, G, a, c, ?_⟩, h2⟩
    unfold pushS
    rw [hb]
    exact h1
theorem duo_rpush (h : Duo B q pr bx xs s1 s2 w) (k r : Int) (hl : s2.length < 1000) {b : Bool} (hb : hasK k s2 = b) :
    Calls Try.prog 9 #[.pointer (some ⟨pr, 0, none⟩), .int .i64 k, .int .i64 r] w fun e w' => e = .returned (.bool !b) ∧ Duo B q pr bx xs s1 (pushS k r s2) w' ∧ Below B w w' := by
  obtain ⟨hB, F, a, c, h⟩ := h
  cases b with
  | true =>
    refine (rpush_there h.r (hasK_yes hb) r).mono fun e w' ⟨he, hw⟩ => ⟨he, ?_, ?_⟩
    · rw [← hw]; unfold pushS; rw [hb]; exact ⟨hB, F, a, c, h⟩
    · rw [← hw]; exact Below.refl _ _
  | false =>
    refine (rpush_new h.r (k := k) (r := r) (hasK_no hb) (by omega)).mono fun e w' ⟨he, hr⟩ => ⟨he, ?_⟩
    obtain ⟨a', c', h1, h2⟩ := h.right hr (nodup_ins h.nd (hasK_no hb)) hB
    refine ⟨⟨Nat.le_trans hB h2.size, F, a', c', ?_⟩, h2⟩
    unfold pushS
    rw [hb]
    exact h1
theorem duo_drop (h : Duo B q pr bx xs s1 s2 w) (k : Int) {b : Bool} (hb : hasK k s1 = b) :
    Calls Try.prog 11 #[.pointer (some ⟨q, 0, none⟩), .int .i64 k] w fun e w' => e = .returned (.bool b) ∧ Duo B q pr bx xs (dropS k s1) s2 w' ∧ Below B w w' := by
  obtain ⟨hB, F, a, c, h⟩ := h
  cases b with
  | false =>
    refine (qdrop_no h.l (hasK_no hb)).mono fun e w' ⟨he, hw⟩ => ⟨he, ?_, ?_⟩
    · rw [← hw, dropS_no hb]; exact ⟨hB, F, a, c, h⟩
    · rw [← hw]; exact Below.refl _ _
  | true =>
    refine (qdrop_yes h.l (hasK_yes hb)).mono fun e w' ⟨he, hq, hs⟩ => ⟨he, ?_⟩
    obtain ⟨h1, h2⟩ := h.left hq hs hB
    exact ⟨⟨Nat.le_trans hB hs.upon.size, F, a, c, h1⟩, h2⟩
theorem duo_rdrop (h : Duo B q pr bx xs s1 s2 w) (k : Int) {b : Bool} (hb : hasK k s2 = b) :
    Calls Try.prog 12 #[.pointer (some ⟨pr, 0, none⟩), .int .i64 k] w fun e w' => e = .returned (.bool b) ∧ Duo B q pr bx xs s1 (dropS k s2) w' ∧ Below B w w' := by
  obtain ⟨hB, F, a, c, h⟩ := h
  cases b with
  | false =>
    refine (rdrop_no h.r (hasK_no hb)).mono fun e w' ⟨he, hw⟩ => ⟨he, ?_, ?_⟩
    · rw [← hw, dropS_no hb]; exact ⟨hB, F, a, c, h⟩
    · rw [← hw]; exact Below.refl _ _
  | true =>
    refine (rdrop_yes h.r h.nd (hasK_yes hb)).mono fun e w' ⟨he, hr⟩ => ⟨he, ?_⟩
    obtain ⟨a', c', h1, h2⟩ := h.right hr (nodup_dropS h.nd) hB
    exact ⟨⟨Nat.le_trans hB h2.size, F, a', c', h1⟩, h2⟩
theorem duo_pop_none (h : Duo B q pr bx xs [] s2 w) :
    Calls Try.prog 10 #[.pointer (some ⟨q, 0, none⟩)] w fun e w' => e = .returned (.tuple #[.int .i64 0, .int .i64 0, .bool false]) ∧ w = w' := by
  obtain ⟨hB, F, a, c, h⟩ := h
  exact qpop_none h.l
theorem duo_pop {k r : Int} {t : List En} (h : Duo B q pr bx xs ((k, r) :: t) s2 w) :
    Calls Try.prog 10 #[.pointer (some ⟨q, 0, none⟩)] w fun e w' => e = .returned (.tuple #[.int .i64 k, .int .i64 r, .bool true]) ∧ Duo B q pr bx xs t s2 w' ∧ Below B w w' := by
  obtain ⟨hB, F, a, c, h⟩ := h
  refine (qpop_to h.l).mono fun e w' ⟨he, hq, hs⟩ => ⟨he, ?_⟩
  obtain ⟨h1, h2⟩ := h.left hq hs hB
  exact ⟨⟨Nat.le_trans hB hs.upon.size, F, a, c, h1⟩, h2⟩

/-- The document's row cut at its head. -/
theorem duo_cut {e : En} {t : List En} (h : Duo B q pr bx xs s1 (e :: t) w) :
    ∃ b o c, w.cell? ⟨pr, 0, none⟩ = some (.slice (some ⟨b, o, none⟩) (t.length + 1) c) ∧ w.frozen? ⟨pr, 0, none⟩ = false ∧ w.cell? ⟨b, o, none⟩ = some (.int .i64 e.1) ∧ w.cell? ⟨b, o + 1, none⟩ = some (.int .i64 e.2) ∧ t.length + 1 ≤ c ∧
      ∀ a', (∀ x, a' = some x → c = 1 ∨ x = ⟨b, o + 2, none⟩) → (c = 1 → ∀ x, a' = some x → x = ⟨b, o, none⟩) → (c ≠ 1 → a' = some ⟨b, o + 2, none⟩) → Duo B q pr bx xs s1 t (w.setCell ⟨pr, 0, none⟩ (.slice a' t.length (c - 1))) ∧ Below B w (w.setCell ⟨pr, 0, none⟩ (.slice a' t.length (c - 1))) := by
  obtain ⟨hB, F, a, c, h⟩ := h
  obtain ⟨b, o, rfl, c1, c2⟩ := h.r.cell (i := 0) (by simp)
  refine ⟨b, o, c, (h.r.root.cell 0).trans rfl, h.r.root.free 0, by simpa using c1, by simpa using c2, h.r.cap, fun a' ha0 ha1 ha2 => ?_⟩
  have hu : Upon (fun k => k = pr) w (w.setCell ⟨pr, 0, none⟩ (.slice a' t.length (c - 1))) := Upon.setCell _ _ rfl
  have hbp : b ≠ pr := h.r.apart _ rfl
  have hxb : ∀ x, a' = some x → x.block = b := fun x hx => by
    by_cases hc : c = 1
    · rw [ha1 hc x hx]
    · have := ha2 hc
      rw [hx] at this
      rw [Option.some.inj this]
  have hcap := h.r.cap
  have hmax := h.r.max
  simp only [List.length_cons] at hcap hmax
  refine ⟨⟨by simpa [World.setCell] using hB, F, a', c - 1, h.l.upon hu fun k hk e => h.fp (e ▸ hk), ⟨h.r.root.set 0 _, ?_, by omega, fun x hx => by rw [hxb x hx]; exact hbp, by omega⟩, h.fp, ?_, h.fB, h.pB, h.row.upon hu h.xp, h.fx, h.xp, (by have := h.nd; rw [List.map_cons, List.nodup_cons] at this; exact this.2)⟩, hu.belowB hB fun k hk => by rw [hk]; exact h.pB⟩
  · by_cases h0 : t.length = 0
    · exact .inl h0
    · refine .inr ⟨b, o + 2, ha2 (by omega), fun j u hj => ?_⟩
      rcases h.r.cells with h1 | ⟨b', o', e', hc⟩
      · simp at h1
      · cases e'
        have := hc (j + 2) u (by simpa [pairsL] using hj)
        rw [show o + 2 + j = o + (j + 2) by omega]
        exact cell_upon hu this hbp
  · rcases h.fa with h1 | h1
    · simp at h1
    · exact .inr fun x hx => by rw [hxb x hx]; exact h1 ⟨b, o, none⟩ rfl
end

end Go.Proofs.Ytgcmkhbpkmfpkaa
