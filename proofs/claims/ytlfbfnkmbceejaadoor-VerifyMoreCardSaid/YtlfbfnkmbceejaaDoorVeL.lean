/-
  Package verify: 'leave': from an instruction with a state to those that come next.
  Conditions: as each states.
-/
import Derived.Test.YtlfbfnkmbceejaaDoorVeM
import Derived.Test.YtlfbfnkmbceejaaDoorVeC
import Derived.Outline
import Derived.IntWalk
import Derived.Deep.DeepCutAuto
import Derived.Deep.CutBlock
namespace Go.Proofs.YtlfbfnkmbceejaaDoor
open Go.ChangeShapes Go.WideShapes Go.ChangeAt Go.RowKit
set_option linter.unusedVariables false
set_option linter.unusedSimpArgs false
set_option maxRecDepth 100000

theorem WkAt.upon {S : Nat → Prop} {B g bs : Nat} {w w' : World} {cv tv : Value} {c : List PIns} {k : Wk} (h : WkAt B w g bs cv tv c k) (hu : Upon S w w') (hg : ¬ S g) (hs : ¬ S bs) (ho : ∀ x, tv.ownBlock = some x → ¬ S x) (hB : ∀ x, x < w.heap.size → S x → B ≤ x) : WkAt B w' g bs cv tv c k :=
  ⟨h.row.upon hu hg, h.sts.upon hu hs, owns_upon h.todo hu ho, fun x hx => ⟨(h.own x hx).1, (h.own x hx).2.1, (h.own x hx).2.2.1, Nat.lt_of_lt_of_le (h.own x hx).2.2.2 hu.size⟩, h.ne, h.bg, h.bb, h.code.upon hu hB⟩

/-- A walk on its way from one instruction to the next ones: the instruction and the next state lie in blocks of their own. -/
structure LvAt (v0 w0 : World) (g bs : Nat) (cv tv0 : Value) (c : List PIns) (b1 b3 : Nat) (p : PIns) (tv : Value) (k : Wk) (nx : PSt) (w : World) : Prop where
  wk : WkAt v0.heap.size w g bs cv tv c k
  r1 : rowAt w b1 49 (insC p)
  r3 : rowAt w b3 47 (stC nx)
  f1 : w0.heap.size ≤ b1
  f3 : w0.heap.size ≤ b3
  ne : b1 ≠ b3
  n1 : tv.ownBlock ≠ some b1
  n3 : tv.ownBlock ≠ some b3
  g0 : g < w0.heap.size
  s0 : bs < w0.heap.size
  up : Upon (foot g bs tv0) w0 w
  ow : ∀ x, tv.ownBlock = some x → tv0.ownBlock = some x ∨ w0.heap.size ≤ x
  T0 : VeTab v0
  b0 : Below v0.heap.size v0 w
  ok : WkOk c k
  mu : muP k ≤ 600
section
variable {v0 w0 w w' : World} {g bs b1 b3 : Nat} {cv tv0 tv : Value} {c : List PIns} {p : PIns} {k : Wk} {nx : PSt}
theorem LvAt.tab (h : LvAt v0 w0 g bs cv tv0 c b1 b3 p tv k nx w) : VeTab w := h.T0.below h.b0
theorem LvAt.below (h : LvAt v0 w0 g bs cv tv0 c b1 b3 p tv k nx w) (hb : Below w.heap.size w w') : LvAt v0 w0 g bs cv tv0 c b1 b3 p tv k nx w' :=
  { h with wk := h.wk.below hb, r1 := h.r1.below hb h.r1.lt, r3 := h.r3.below hb h.r3.lt, up := h.up.trans (Upon.of_below hb) fun _ _ h => h, b0 := h.b0.trans (hb.mono h.wk.lt) }
theorem LvAt.cells (h : LvAt v0 w0 g bs cv tv0 c b1 b3 p tv k nx w) : w.cell? ⟨b1, 0, none⟩ = some (.int .i64 p.1) ∧ w.cell? ⟨b1, 1, none⟩ = some (.int .i64 p.2.1) ∧ w.cell? ⟨b1, 2, none⟩ = some (.int .i64 p.2.2) ∧ w.cell? ⟨b3, 0, none⟩ = some (.int .i64 nx.1) ∧ w.cell? ⟨b3, 1, none⟩ = some (.int .i64 nx.2) ∧ w.frozen? ⟨b3, 1, none⟩ = false :=
  ⟨(h.r1.cell 0).trans rfl, (h.r1.cell 1).trans rfl, (h.r1.cell 2).trans rfl, (h.r3.cell 0).trans rfl, (h.r3.cell 1).trans rfl, h.r3.free 1⟩
theorem LvAt.set (h : LvAt v0 w0 g bs cv tv0 c b1 b3 p tv k nx w) (z : Int) : LvAt v0 w0 g bs cv tv0 c b1 b3 p tv k (nx.1, z) (w.setCell ⟨b3, 1, none⟩ (.int .i64 z)) := by
  have hu : Upon (fun x => x = b3) w (w.setCell ⟨b3, 1, none⟩ (.int .i64 z)) := Upon.setCell _ _ rfl
  have hg := h.g0; have hs := h.s0; have h3 := h.f3
  have hB : v0.heap.size ≤ b3 := by have := h.wk.bg; omega
  exact { h with
    wk := h.wk.upon hu (by omega) (by omega) (fun x hx e => h.n3 (by rw [hx, e])) (fun x _ e => by omega)
    r1 := h.r1.other _ _ h.ne
    r3 := h.r3.set 1 (.int .i64 z)
    up := h.up.trans hu fun x hx e => by omega
    b0 := h.b0.trans (hu.belowB h.wk.lt fun x e => by omega) }
theorem LvAt.done (h : LvAt v0 w0 g bs cv tv0 c b1 b3 p tv k nx w) : ComePost v0.heap.size g bs cv tv0 c k w0 (.returned (.tuple #[])) w := ⟨rfl, ⟨tv, h.wk, h.ow⟩, h.up⟩
theorem come_lv (h : LvAt v0 w0 g bs cv tv0 c b1 b3 p tv k nx w) (h6 : c.length ≤ 600) (a : Nat) (xa x y : Int) (hxa : xa = a) (ha : a ≤ 100000) {K' : Wk} (hk : comeP k a (x, y) = K') :
    Calls Tryd.prog 42 #[.pointer (some ⟨g, 0, none⟩), .int .i64 xa, .agg #[.int .i64 x, .int .i64 y]] w fun e w' => e = .returned (.tuple #[]) ∧ ∃ tv', LvAt v0 w0 g bs cv tv0 c b1 b3 p tv' K' nx w' := by
  subst hxa
  have hm := comeP_mu (k := k) a (x, y)
  have ho := comeP_ok h.ok a (x, y)
  rw [hk] at hm ho
  have hmu := h.mu
  refine (come_any (w0 := w) h.wk h.tab h.ok.len h6 (by unfold muP at hmu; omega) a x y ha).mono ?_
  rintro e w' ⟨he, ⟨tv', hw, hown⟩, hu⟩
  rw [hk] at hw
  have hg := h.g0; have hs := h.s0; have h3 := h.f3; have h1 := h.f1; have l1 := h.r1.lt; have l3 := h.r3.lt
  refine ⟨he, tv', { h with wk := hw, ok := ho, mu := by omega, r1 := ?_, r3 := ?_, n1 := ?_, n3 := ?_, up := ?_, ow := ?_, b0 := h.b0.trans (foot_below h.wk hu) }⟩
  · exact h.r1.upon hu fun e => by rcases e with e | e | e; omega; omega; exact h.n1 e
  · exact h.r3.upon hu fun e => by rcases e with e | e | e; omega; omega; exact h.n3 e
  · intro e; rcases hown _ e with e | e; exact h.n1 e; omega
  · intro e; rcases hown _ e with e | e; exact h.n3 e; omega
  · exact h.up.trans hu fun x hx e => by
      rcases e with e | e | e
      · exact .inl e
      · exact .inr (.inl e)
      · rcases h.ow x e with e | e
        · exact .inr (.inr e)
        · omega
  · intro x e
    rcases hown x e with e | e
    · exact h.ow x e
    · exact .inr (Nat.le_trans h.up.size e)
end
theorem ends_is {o a b : Int} {r : Bool} (h : opEnds o = r) (w : World) :
    Calls Tryd.prog 51 #[.agg #[.int .i64 o, .int .i64 a, .int .i64 b]] w fun e w' => e = .returned (.bool r) ∧ Below w.heap.size w w' := h ▸ ends_any o a b w
theorem effect_is {o a b t l : Int} (ht : effT o a b = t) (hl : effL o a b = l) (w : World) (T : OpTab w) :
    Calls Tryd.prog 49 #[.agg #[.int .i64 o, .int .i64 a, .int .i64 b]] w fun e w' => (∃ ok : Bool, e = .returned (.tuple #[.int .i64 t, .int .i64 l, .bool ok])) ∧ Below w.heap.size w w' :=
  (effect_any o a b w T).mono fun e w' ⟨he, hb⟩ => ⟨⟨opGood o a b, by rw [he, ht, hl]⟩, hb⟩
theorem jump_bd {o a b : Int} (h : opGood o a b = true) (ho : o = 10 ∨ o = 11 ∨ o = 33) : 0 ≤ a ∧ a ≤ 599 := by
  rcases ho with rfl | rfl | rfl
  · have e := good_at 10 a b (by omega)
    rw [show ((10 : Nat) : Int) = 10 from rfl, h] at e
    exact of_decide_eq_true (Bool.and_eq_true_iff.1 e.symm).1
  · have e := good_at 11 a b (by omega)
    rw [show ((11 : Nat) : Int) = 11 from rfl, h] at e
    exact of_decide_eq_true (Bool.and_eq_true_iff.1 e.symm).1
  · have e := good_at 33 a b (by omega)
    rw [show ((33 : Nat) : Int) = 33 from rfl, h] at e
    exact of_decide_eq_true (Bool.and_eq_true_iff.1 e.symm).1

def LvIn (w : World) (p : PIns) (s : PSt) (v4 v5 : Value) (wx : World) : Prop :=
  ∃ b1 b2, v4 = .pointer (some ⟨b1, 0, none⟩) ∧ v5 = .pointer (some ⟨b2, 0, none⟩) ∧ rowAt wx b1 49 (insC p) ∧ rowAt wx b2 47 (stC s) ∧ b1 ≠ b2 ∧ w.heap.size ≤ b1 ∧ w.heap.size ≤ b2 ∧ Below w.heap.size w wx
theorem lv_is (w : World) (o A Bb x y : Int) : LvIn w (o, A, Bb) (x, y) (.pointer (some ⟨w.heap.size, 0, none⟩)) (.pointer (some ⟨w.heap.size + 1, 0, none⟩)) ((w.alloc (.cells #[.int .i64 o, .int .i64 A, .int .i64 Bb] 49)).alloc (.cells #[.int .i64 x, .int .i64 y] 47)).drew :=
  ⟨_, _, rfl, rfl, ((rowAt.made w _ _).alloc _).drew, (rowAt.made_at _ _ (by simp)).drew, by omega, Nat.le_refl _, by omega, down_drew (down_alloc (down_alloc (Below.refl _ _) _) _)⟩
theorem lv_si (w : World) (o A Bb x y : Int) : LvIn w (o, A, Bb) (x, y) (.pointer (some ⟨w.heap.size + 1, 0, none⟩)) (.pointer (some ⟨w.heap.size, 0, none⟩)) ((w.alloc (.cells #[.int .i64 x, .int .i64 y] 47)).alloc (.cells #[.int .i64 o, .int .i64 A, .int .i64 Bb] 49)).drew :=
  ⟨_, _, rfl, rfl, (rowAt.made_at _ _ (by simp)).drew, ((rowAt.made w _ _).alloc _).drew, by omega, by omega, Nat.le_refl _, down_drew (down_alloc (down_alloc (Below.refl _ _) _) _)⟩
theorem leaveP_no {c : List PIns} {k : Wk} {a : Nat} {p : PIns} {s : PSt} (hp : insAt c a = p) (hs : stAt k.st a = s) (h : locOk p s = false) : leaveP c k a = { k with wr := true } := by
  unfold leaveP; rw [hp, hs, if_neg (by rw [h]; decide)]
theorem leaveP_yes {c : List PIns} {k : Wk} {a : Nat} {p : PIns} {s : PSt} (hp : insAt c a = p) (hs : stAt k.st a = s) (h : locOk p s = true) : leaveP c k a = comesP k (succP p a s) := by
  unfold leaveP; rw [hp, hs, if_pos h]

set_option maxHeartbeats 8000000 in
theorem leave_any {v0 : World} {g bs : Nat} {w : World} {cv tv : Value} {c : List PIns} {k : Wk} (h : WkAt v0.heap.size w g bs cv tv c k) (T : VeTab v0) (hb0 : Below v0.heap.size v0 w) (ok : WkOk c k) (hG : ∀ p ∈ c, insG p = true) (h6 : c.length ≤ 600) (hmu : muP k ≤ 600) (a : Nat) (ha : a < c.length) :
    Calls Tryd.prog 43 #[.pointer (some ⟨g, 0, none⟩), .int .i64 a] w (ComePost v0.heap.size g bs cv tv c (leaveP c k a) w) := by
  obtain ⟨ca, cc, rfl, hcode⟩ := id h.code
  obtain ⟨⟨o, A, Bb⟩, hp⟩ : ∃ p, insAt c a = p := ⟨_, rfl⟩
  obtain ⟨⟨x, y⟩, hs⟩ : ∃ s, stAt k.st a = s := ⟨_, rfl⟩
  have hpa : c[a]? = some (o, A, Bb) := by
    unfold insAt at hp
    rw [List.getD_eq_getElem?_getD, List.getElem?_eq_getElem ha] at hp
    rw [List.getElem?_eq_getElem ha]
    exact congrArg some hp
  have hgood : opGood o A Bb = true := hG _ (List.mem_of_getElem? hpa)
  have hst := ok.sts _ (stAt_mem (l := k.st) (a := a) (by rw [ok.len]; exact ha))
  rw [hs] at hst
  have hxy : x ≤ 100 ∧ -1 ≤ x + 1000000 ∨ x ≤ 100 := .inr (by
    rcases hst with e | e
    · cases e; omega
    · exact (of_decide_eq_true e).1)
  have hx : x ≤ 100 := by omega
  have hy : -1 ≤ y ∧ y ≤ 10 := by
    rcases hst with e | e
    · cases e; omega
    · have := of_decide_eq_true e; simp only at this; omega
  rcases hcode with h0 | ⟨cb, co, rfl, hcb, hcl, hcells⟩
  · omega
  have gi := insL_get c a _ hpa
  have c0 : w.cell? ⟨cb, co + a * 3, none⟩ = some (.int .i64 o) := hcells _ _ gi.1
  have c1 : w.cell? ⟨cb, co + a * 3 + 1, none⟩ = some (.int .i64 A) := hcells _ _ gi.2.1
  have c2 : w.cell? ⟨cb, co + a * 3 + 2, none⟩ = some (.int .i64 Bb) := hcells _ _ gi.2.2
  obtain ⟨d0, d1, d2, d3⟩ := h.cell
  obtain ⟨e0, e1⟩ := h.state (a := a) (by rw [ok.len]; exact ha)
  rw [hs] at e0 e1
  simp only at e0 e1
  have haI : (a : Int) < c.length := by omega
  have haI2 : (a : Int) < k.st.length := by rw [ok.len]; omega
  have hg := h.row.lt
  have hbs := h.sts.lt
  have H := Lib.hid h
  have HT := Lib.hid T
  have HB0 := Lib.hid hb0
  have HOK := Lib.hid ok
  have HP := Lib.hid hp
  have HS := Lib.hid hs
  have HGD := Lib.hid hgood
  have HMU := Lib.hid hmu
  clear hcells gi hcb h T hb0 ok hp hs hgood hst hG hmu hxy hpa
  go_enter Tryd.func43, Tryd.ntmps43
  go_upto_region 1 with fail
  go_cut [4, 5] (fun v4 v5 wx => LvIn w (o, A, Bb) (x, y) v4 v5 wx)
  case first =>
    go_wp2
    go_region
    all_goals
      go_wp2
      go_meet
      first | exact lv_is _ _ _ _ _ _ | exact lv_si _ _ _ _ _ _
  case rest =>
    obtain ⟨b1, b2, rfl, rfl, r1, r2, hne, hb1, hb2, hbl⟩ := hcut
    obtain ⟨t, ht⟩ : ∃ t, effT o A Bb = t := ⟨_, rfl⟩
    obtain ⟨l, hl⟩ : ∃ l, effL o A Bb = l := ⟨_, rfl⟩
    have tb := insT_bd (o, A, Bb)
    have lb := insLv_pos (o, A, Bb)
    have lb2 := insLv_le (o, A, Bb)
    rw [show insT (o, A, Bb) = t from ht] at tb
    rw [show insLv (o, A, Bb) = l from hl] at lb lb2
    have HE := Lib.hid ht
    have HL := Lib.hid hl
    have K0 := Lib.hid (H.out.below hbl)
    have R1 := Lib.hid r1
    have R2 := Lib.hid r2
    have BL := Lib.hid hbl
    have g1 : wc.cell? ⟨b1, 0, none⟩ = some (.int .i64 o) := (r1.cell 0).trans rfl
    have g2 : wc.cell? ⟨b1, 1, none⟩ = some (.int .i64 A) := (r1.cell 1).trans rfl
    have g3 : wc.cell? ⟨b1, 2, none⟩ = some (.int .i64 Bb) := (r1.cell 2).trans rfl
    clear c0 c1 c2 d0 d1 d2 d3 e0 e1 ht hl r1 r2 hbl
    go_wp2_with fail
    refine (effect_is HE.out HL.out _ ((HT.out.below (HB0.out.trans (BL.out.mono H.out.lt))).op)).mono ?_
    rintro e w1 ⟨⟨okb, rfl⟩, hb⟩
    have K1 := Lib.hid (K0.out.below hb)
    have R11 := Lib.hid (R1.out.below hb R1.out.lt)
    have R21 := Lib.hid (R2.out.below hb R2.out.lt)
    have BL1 := Lib.hid (down_call BL.out hb)
    have g1 : w1.cell? ⟨b1, 0, none⟩ = some (.int .i64 o) := (R11.out.cell 0).trans rfl
    have g2 : w1.cell? ⟨b1, 1, none⟩ = some (.int .i64 A) := (R11.out.cell 1).trans rfl
    have g3 : w1.cell? ⟨b1, 2, none⟩ = some (.int .i64 Bb) := (R11.out.cell 2).trans rfl
    have q1 : w1.cell? ⟨b2, 0, none⟩ = some (.int .i64 x) := (R21.out.cell 0).trans rfl
    have q2 : w1.cell? ⟨b2, 1, none⟩ = some (.int .i64 y) := (R21.out.cell 1).trans rfl
    have d3 : w1.cell? ⟨g, 3, none⟩ = some (.bool k.wr) := K1.out.cell.2.2.2
    have d4 := K1.out.row.free 3
    clear hb
    by_cases htx : x < t
    · have HN := Lib.hid (leaveP_no HP.out HS.out (show locOk (o, A, Bb) (x, y) = false by unfold locOk; rw [show insT (o, A, Bb) = t from HE.out, decide_eq_false (by show ¬ t ≤ x; omega), Bool.false_and]))
      go_wp2_with fail
      go_end0
      exact come_same (by rw [HN.out]; exact K1.out.wrong true) BL1.out (foot_set _ _ _ _ _ _)
    · have htx2 : t ≤ x := by omega
      clear htx
      cases he : endOk (o, A, Bb) (x, y)
      · have HN := Lib.hid (leaveP_no HP.out HS.out (show locOk (o, A, Bb) (x, y) = false by unfold locOk; rw [he, Bool.and_false]))
        have HEK := Lib.hid he
        clear he
        go_wp2_with fail
        refine (endsWell_is HEK.out _).mono ?_
        rintro e w2 ⟨rfl, hb⟩
        have K2 := Lib.hid (K1.out.below hb)
        have BL2 := Lib.hid (down_call BL1.out hb)
        have d5 : w2.cell? ⟨g, 3, none⟩ = some (.bool k.wr) := K2.out.cell.2.2.2
        have d6 := K2.out.row.free 3
        clear hb
        go_wp2_with fail
        go_end0
        exact come_same (by rw [HN.out]; exact K2.out.wrong true) BL2.out (foot_set _ _ _ _ _ _)
      · have HY := Lib.hid (leaveP_yes HP.out HS.out (show locOk (o, A, Bb) (x, y) = true by unfold locOk; rw [he, show insT (o, A, Bb) = t from HE.out, decide_eq_true (show t ≤ x from htx2)]; rfl))
        have HEK := Lib.hid he
        clear he
        go_wp2_with fail
        refine (endsWell_is HEK.out _).mono ?_
        rintro e w2 ⟨rfl, hb⟩
        have K2 := Lib.hid (K1.out.below hb)
        have BL2 := Lib.hid (down_call BL1.out hb)
        have R12 := Lib.hid (R11.out.below hb R11.out.lt)
        have R22 := Lib.hid (R21.out.below hb R21.out.lt)
        have q1 : w2.cell? ⟨b2, 0, none⟩ = some (.int .i64 x) := (R22.out.cell 0).trans rfl
        have q2 : w2.cell? ⟨b2, 1, none⟩ = some (.int .i64 y) := (R22.out.cell 1).trans rfl
        clear hb g1 g2 g3 d3 d4
        obtain ⟨X, hX⟩ : ∃ X, x - t + l = X := ⟨_, rfl⟩
        have HX := Lib.hid (show nextP (o, A, Bb) (x, y) = (X, y) by unfold nextP; rw [show insT (o, A, Bb) = t from HE.out, show insLv (o, A, Bb) = l from HL.out]; exact congrArg (·, y) hX)
        have hX1 : 0 ≤ X ∧ X ≤ 101 := by omega
        obtain ⟨W3, hW3⟩ : ∃ W, w2.alloc (.cells #[.int .i64 X, .int .i64 y] 47) = W := ⟨_, rfl⟩
        have b3 : Below w2.heap.size w2 W3 := by rw [← hW3]; exact down_alloc (Below.refl _ _) _
        have lv : LvAt v0 w g bs (.slice (some ⟨cb, co, none⟩) c.length cc) tv c b1 w2.heap.size (o, A, Bb) tv k (X, y) W3 := {
          wk := K2.out.below b3
          r1 := R12.out.below b3 R12.out.lt
          r3 := by rw [← hW3]; exact rowAt.made _ _ _
          f1 := hb1
          f3 := BL2.out.size
          ne := Nat.ne_of_lt R12.out.lt
          n1 := fun e => by have := (H.out.own _ e).2.2.2; omega
          n3 := fun e => by have := (H.out.own _ e).2.2.2; have := BL2.out.size; omega
          g0 := hg
          s0 := hbs
          up := Upon.of_below (down_call BL2.out b3)
          ow := fun x e => .inl e
          T0 := HT.out
          b0 := HB0.out.trans ((down_call BL2.out b3).mono H.out.lt)
          ok := HOK.out
          mu := HMU.out }
        have LV := Lib.hid lv
        obtain ⟨p1, p2, p3, p4, p5, p6⟩ := LV.out.cells
        simp only at p1 p2 p3 p4 p5
        clear b3 lv
        -- FROM
        by_cases h10 : o = 10
        · subst h10
          obtain ⟨An, rfl⟩ : ∃ n : Nat, A = n := ⟨A.toNat, by have := jump_bd HGD.out (by omega); omega⟩
          have hA2 : An ≤ 599 := by have := jump_bd HGD.out (by omega); omega
          have HK := Lib.hid (show leaveP c k a = comeP k An (X, y) by rw [HY.out]; unfold succP; rw [if_pos rfl, HX.out]; rfl)
          have EN := Lib.hid (show opEnds 10 = true by rfl)
          go_wp2_with fail
          refine (come_lv LV.out h6 An An X y rfl (by omega) rfl).mono ?_
          rintro e w4 ⟨rfl, tv4, lv4⟩
          have LV4 := Lib.hid lv4
          clear lv4 p1 p2 p3 p4 p5 p6
          have CL := LV4.out.cells
          obtain ⟨p1, p2, p3, p4, p5, p6⟩ := CL
          simp only at p1 p2 p3 p4 p5
          go_wp2_with fail
          refine (ends_is (r := true) (EN.out) _).mono ?_
          rintro e w7 ⟨rfl, hb⟩
          have LV7 := Lib.hid (LV4.out.below hb)
          clear hb p1 p2 p3 p4 p5 p6
          go_wp2_with fail
          go_end0
          rw [HK.out]
          exact LV7.out.done
        · have t10 : (o == 10) = false := by rw [beq_eq_false_iff_ne]; exact h10
          by_cases h11 : o = 11
          · subst h11
            obtain ⟨An, rfl⟩ : ∃ n : Nat, A = n := ⟨A.toNat, by have := jump_bd HGD.out (by omega); omega⟩
            have hA2 : An ≤ 599 := by have := jump_bd HGD.out (by omega); omega
            have HK := Lib.hid (show leaveP c k a = comeP (comeP k An (X, y)) (a + 1) (X, y) by rw [HY.out]; unfold succP; rw [if_neg (by simp), if_pos rfl, HX.out]; rfl)
            have EN := Lib.hid (show opEnds 11 = false by rfl)
            go_wp2_with fail
            refine (come_lv LV.out h6 An An X y rfl (by omega) rfl).mono ?_
            rintro e w4 ⟨rfl, tv4, lv4⟩
            have LV4 := Lib.hid lv4
            clear lv4 p1 p2 p3 p4 p5 p6
            have CL := LV4.out.cells
            obtain ⟨p1, p2, p3, p4, p5, p6⟩ := CL
            simp only at p1 p2 p3 p4 p5
            go_wp2_with fail
            refine (ends_is (r := false) (EN.out) _).mono ?_
            rintro e w7 ⟨rfl, hb⟩
            have LV7 := Lib.hid (LV4.out.below hb)
            clear hb p1 p2 p3 p4 p5 p6
            obtain ⟨p1, p2, p3, p4, p5, p6⟩ := LV7.out.cells
            simp only at p1 p2 p3 p4 p5
            go_wp2_with fail
            refine (come_lv LV7.out h6 (a + 1) ((a : Int) + 1) X y (by omega) (by omega) rfl).mono ?_
            rintro e w8 ⟨rfl, tv8, lv8⟩
            have LV8 := Lib.hid lv8
            clear lv8 p1 p2 p3 p4 p5 p6
            go_wp2_with fail
            go_end0
            rw [HK.out]
            exact LV8.out.done
          · have t11 : (o == 11) = false := by rw [beq_eq_false_iff_ne]; exact h11
            by_cases h33 : o = 33
            · subst h33
              obtain ⟨An, rfl⟩ : ∃ n : Nat, A = n := ⟨A.toNat, by have := jump_bd HGD.out (by omega); omega⟩
              have hA2 : An ≤ 599 := by have := jump_bd HGD.out (by omega); omega
              have HK := Lib.hid (show leaveP c k a = comeP (comeP k An (X + 1, y)) (a + 1) (X, y + 1) by rw [HY.out]; unfold succP; rw [if_neg (by simp), if_neg (by simp), if_pos rfl, HX.out]; rfl)
              have EN := Lib.hid (show opEnds 33 = false by rfl)
              go_wp2_with fail
              refine (come_lv LV.out h6 An An (X + 1) y rfl (by omega) rfl).mono ?_
              rintro e w4 ⟨rfl, tv4, lv4⟩
              have LV4 := Lib.hid lv4
              clear lv4 p1 p2 p3 p4 p5 p6
              have LV5 := Lib.hid (LV4.out.set (y + 1))
              obtain ⟨p1, p2, p3, p4, p5, p6⟩ := LV4.out.cells
              simp only at p1 p2 p3 p4 p5
              obtain ⟨W5, hW5⟩ : ∃ W, w4.setCell ⟨w2.heap.size, 1, none⟩ (.int .i64 (y + 1)) = W := ⟨_, rfl⟩
              rw [hW5] at LV5
              simp only at LV5
              have CL5 := LV5.out.cells
              obtain ⟨s1, s2, s3, s4, s5, s6⟩ := CL5
              simp only at s1 s2 s3 s4 s5
              go_wp2_with fail
              refine (ends_is (r := false) (EN.out) _).mono ?_
              rintro e w7 ⟨rfl, hb⟩
              have LV7 := Lib.hid (LV5.out.below hb)
              clear hb p1 p2 p3 p4 p5 p6 s1 s2 s3 s4 s5 s6 hW5
              obtain ⟨p1, p2, p3, p4, p5, p6⟩ := LV7.out.cells
              simp only at p1 p2 p3 p4 p5
              go_wp2_with fail
              refine (come_lv LV7.out h6 (a + 1) ((a : Int) + 1) X (y + 1) (by omega) (by omega) rfl).mono ?_
              rintro e w8 ⟨rfl, tv8, lv8⟩
              have LV8 := Lib.hid lv8
              clear lv8 p1 p2 p3 p4 p5 p6
              go_wp2_with fail
              go_end0
              rw [HK.out]
              exact LV8.out.done
            · have t33 : (o == 33) = false := by rw [beq_eq_false_iff_ne]; exact h33
              by_cases h34 : o = 34
              · subst h34
                have HK := Lib.hid (show leaveP c k a = comeP k (a + 1) (X, y - 1) by rw [HY.out]; unfold succP; rw [if_neg (by simp), if_neg (by simp), if_neg (by simp), if_pos rfl, HX.out]; rfl)
                have EN := Lib.hid (show opEnds 34 = false by rfl)
                have LV5 := Lib.hid (LV.out.set (y - 1))
                obtain ⟨W5, hW5⟩ : ∃ W, W3.setCell ⟨w2.heap.size, 1, none⟩ (.int .i64 (y - 1)) = W := ⟨_, rfl⟩
                rw [hW5] at LV5
                simp only at LV5
                have CL5 := LV5.out.cells
                obtain ⟨s1, s2, s3, s4, s5, s6⟩ := CL5
                simp only at s1 s2 s3 s4 s5
                go_wp2_with fail
                refine (ends_is (r := false) (EN.out) _).mono ?_
                rintro e w7 ⟨rfl, hb⟩
                have LV7 := Lib.hid (LV5.out.below hb)
                clear hb p1 p2 p3 p4 p5 p6 s1 s2 s3 s4 s5 s6 hW5
                obtain ⟨p1, p2, p3, p4, p5, p6⟩ := LV7.out.cells
                simp only at p1 p2 p3 p4 p5
                go_wp2_with fail
                refine (come_lv LV7.out h6 (a + 1) ((a : Int) + 1) X (y - 1) (by omega) (by omega) rfl).mono ?_
                rintro e w8 ⟨rfl, tv8, lv8⟩
                have LV8 := Lib.hid lv8
                clear lv8 p1 p2 p3 p4 p5 p6
                go_wp2_with fail
                go_end0
                rw [HK.out]
                exact LV8.out.done
              · have t34 : (o == 34) = false := by rw [beq_eq_false_iff_ne]; exact h34
                cases hen : opEnds o
                · have HK := Lib.hid (show leaveP c k a = comeP k (a + 1) (X, y) by rw [HY.out]; unfold succP; rw [if_neg h10, if_neg h11, if_neg h33, if_neg h34, if_neg (by rw [hen]; decide), HX.out]; rfl)
                  have EN := Lib.hid hen
                  clear hen h10 h11 h33 h34
                  go_wp2_with fail
                  refine (ends_is (r := false) (EN.out) _).mono ?_
                  rintro e w7 ⟨rfl, hb⟩
                  have LV7 := Lib.hid (LV.out.below hb)
                  clear hb p1 p2 p3 p4 p5 p6
                  obtain ⟨p1, p2, p3, p4, p5, p6⟩ := LV7.out.cells
                  simp only at p1 p2 p3 p4 p5
                  go_wp2_with fail
                  refine (come_lv LV7.out h6 (a + 1) ((a : Int) + 1) X y (by omega) (by omega) rfl).mono ?_
                  rintro e w8 ⟨rfl, tv8, lv8⟩
                  have LV8 := Lib.hid lv8
                  clear lv8 p1 p2 p3 p4 p5 p6
                  go_wp2_with fail
                  go_end0
                  rw [HK.out]
                  exact LV8.out.done
                · have HK := Lib.hid (show leaveP c k a = k by rw [HY.out]; unfold succP; rw [if_neg h10, if_neg h11, if_neg h33, if_neg h34, if_pos hen]; rfl)
                  have EN := Lib.hid hen
                  clear hen h10 h11 h33 h34
                  go_wp2_with fail
                  refine (ends_is (r := true) (EN.out) _).mono ?_
                  rintro e w7 ⟨rfl, hb⟩
                  have LV7 := Lib.hid (LV.out.below hb)
                  clear hb p1 p2 p3 p4 p5 p6
                  go_wp2_with fail
                  go_end0
                  rw [HK.out]
                  exact LV7.out.done
        -- TO
end Go.Proofs.YtlfbfnkmbceejaaDoor
