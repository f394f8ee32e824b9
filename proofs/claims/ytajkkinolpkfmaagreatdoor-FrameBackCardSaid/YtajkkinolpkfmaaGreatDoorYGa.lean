/-
  Package frame: Throw, what a machine is when a code is raised.
  Conditions: as each states.
-/
import Derived.Test.YtajkkinolpkfmaaGreatDoorYFb
import Derived.Deep.RegionLaw
import Derived.Test.YtajkkinolpkfmaaGreatDoorYCoIn
import Derived.Deep.QuietTactic
namespace Go.Proofs.YtajkkinolpkfmaaGreatDoor
set_option linter.unusedVariables false
set_option linter.unusedSimpArgs false
open Go.ChangeShapes Go.WideShapes Go.ChangeAt Go.RowKit
set_option maxRecDepth 100000

/-! ## plain -/
def frN : PFr := (0, 0, 0, 0)
def pcF (f : PFr) (pc : Int) : PFr := (f.1, pc, f.2.2.1, f.2.2.2)
def popFr (fr : List PFr) (k : Nat) (pc : Int) : List PFr := (fr.set k (pcF (fr.getD k frN) pc)).take (k + 1)
def inF (a b c : Int) : Bool := decide (b ≤ a ∧ a ≤ c)
theorem inF_iff {a b c : Int} : inF a b c = true ↔ b ≤ a ∧ a ≤ c := by simp [inF]
def thOk (M : PMa) (h : PHd) : Bool := inF h.1 1 M.fr.length && inF h.2.1 0 M.st.length
def thNone (M : PMa) (c : Int) : PMa := { M with st := [], fr := [], state := 3, code := wWrap c }
def thTo (M : PMa) (h : PHd) (c : Int) : PMa := { M with st := M.st.take h.2.1.toNat ++ [wInt c], fr := popFr M.fr (h.1 - 1).toNat h.2.2, hd := M.hd.dropLast }
/-- What the machine is when the code is raised. -/
def throwP (M : PMa) (c : Int) : PMa :=
  match M.hd.getLast? with
  | none => thNone M c
  | some h => if thOk M h = true then thTo M h c else { M with state := 7 }
theorem wdL_take (l : List Int) (n : Nat) : wdL (l.take n) = (wdL l).take n := List.map_take
theorem frL_take : ∀ (l : List PFr) (n : Nat), frL (l.take n) = (frL l).take (n * 4)
  | [], n => by simp [frL]
  | x :: l, 0 => by simp [frL]
  | x :: l, n + 1 => by
    have ih := frL_take l n
    rw [show (n + 1) * 4 = n * 4 + 1 + 1 + 1 + 1 by omega]
    simpa [frL, frC] using ih
theorem hdL_take : ∀ (l : List PHd) (n : Nat), hdL (l.take n) = (hdL l).take (n * 3)
  | [], n => by simp [hdL]
  | x :: l, 0 => by simp [hdL]
  | x :: l, n + 1 => by
    have ih := hdL_take l n
    rw [show (n + 1) * 3 = n * 3 + 1 + 1 + 1 by omega]
    simpa [hdL, hdC] using ih
theorem frL_set : ∀ (l : List PFr) (k : Nat) (pc : Int), k < l.length → (frL l).set (k * 4 + 1) (.int .i64 pc) = frL (l.set k (pcF (l.getD k frN) pc))
  | [], k, _, h => by simp at h
  | x :: l, 0, pc, _ => by simp [frL, frC, pcF]
  | x :: l, k + 1, pc, h => by
    have ih := frL_set l k pc (by simpa using h)
    rw [show (k + 1) * 4 + 1 = k * 4 + 1 + 1 + 1 + 1 + 1 by omega]
    simpa [frL, frC] using ih
theorem hdL_get : ∀ (l : List PHd) (k : Nat) (h : PHd), l[k]? = some h → (hdL l)[k * 3]? = some (.int .i64 h.1) ∧ (hdL l)[k * 3 + 1]? = some (.int .i64 h.2.1) ∧ (hdL l)[k * 3 + 2]? = some (.int .i64 h.2.2)
  | [], k, _, h => by simp at h
  | x :: l, 0, h, e => by simp at e; subst e; simp [hdL, hdC]
  | x :: l, k + 1, h, e => by
    have ih := hdL_get l k h (by simpa using e)
    rw [show (k + 1) * 3 = k * 3 + 1 + 1 + 1 by omega]
    simpa [hdL, hdC] using ih

def ThPost (w : World) (M : PMa) (e : Ending) (w' : World) : Prop :=
  ∃ s f h, e = .returned (maV M.z0 M.z1 M.z2 M.z3 s f h M.state M.res M.code) ∧ maAt (fun k => k < w.heap.size) w' s f h M ∧ Below w.heap.size w w'
theorem rd_row {S : Nat → Prop} {w : World} {g n c : Nat} {T : TypeId} {cs ds : List Value} (r : rowAt w g T ds) (hS : ¬ S g) (h : ∀ (j : Nat) (u : Value), cs[j]? = some u → ds[j]? = some u) : rdAt S w (.slice (some ⟨g, 0, none⟩) n c) n cs :=
  ⟨_, _, rfl, .inr ⟨g, 0, rfl, hS, r.lt, fun j u hj => by rw [r.cell, Nat.zero_add]; exact h j u hj⟩⟩
theorem rd_nil {S : Nat → Prop} {w : World} {a : Option Addr} {c : Nat} {cs : List Value} : rdAt S w (.slice a 0 c) 0 cs := ⟨_, _, rfl, .inl rfl⟩
theorem within_any (a b c : Int) (w : World) :
    Calls Tryz.prog 52 #[.int .i64 a, .int .i64 b, .int .i64 c] w fun e w' => e = .returned (.bool (inF a b c)) ∧ w = w' := by
  by_cases h1 : b ≤ a
  · by_cases h2 : a ≤ c
    · have E := Lib.hid (show true = inF a b c from (decide_eq_true ⟨h1, h2⟩).symm)
      go_enter Tryz.func52, Tryz.ntmps52
      go_wp2_with fail
      go_ret
      exact ⟨ret_bool E.out, rfl⟩
    · have E := Lib.hid (show false = inF a b c from (decide_eq_false fun h => h2 h.2).symm)
      go_enter Tryz.func52, Tryz.ntmps52
      go_wp2_with fail
      go_ret
      exact ⟨ret_bool E.out, rfl⟩
  · have E := Lib.hid (show false = inF a b c from (decide_eq_false fun h => h1 h.1).symm)
    go_enter Tryz.func52, Tryz.ntmps52
    go_wp2_with fail
    go_ret
    exact ⟨ret_bool E.out, rfl⟩
theorem within_is {a b c : Int} {r : Bool} (h : inF a b c = r) (w : World) :
    Calls Tryz.prog 52 #[.int .i64 a, .int .i64 b, .int .i64 c] w fun e w' => e = .returned (.bool r) ∧ w = w' := h ▸ within_any a b c w

/-! ## the machine that Throw works on -/
/-- Behind its copy: the machine in block b, its lists in g1, g2, g3. -/
structure ThIn (w W : World) (z0 z1 z2 z3 : Int) (st : List Int) (fr : List PFr) (hd : List PHd) (sta res cod : Int) (g1 g2 g3 : Nat) : Prop where
  r1 : rowAt W w.heap.size 45 [.int .i64 z0, .int .i64 z1, .int .i64 z2, .int .i64 z3, .slice (some ⟨g1, 0, none⟩) st.length st.length, .slice (some ⟨g2, 0, none⟩) fr.length fr.length, .slice (some ⟨g3, 0, none⟩) hd.length hd.length, .int .i64 sta, .int .u64 res, .int .i64 cod]
  r2 : rowAt W (w.heap.size + 1) 45 [.int .i64 0, .int .i64 0, .int .i64 0, .int .i64 0, .slice none 0 0, .slice none 0 0, .slice none 0 0, .int .i64 0, .int .u64 0, .int .i64 0]
  o1 : rowAt W g1 43 (wdL st)
  o2 : rowAt W g2 65 (frL fr)
  o3 : rowAt W g3 63 (hdL hd)
  l1 : w.heap.size + 1 < g1
  l2 : w.heap.size + 1 < g2
  l3 : w.heap.size + 1 < g3
  n1 : g1 ≠ g2
  n2 : g1 ≠ g3
  n3 : g2 ≠ g3
  hb : Below w.heap.size w W
theorem ThIn.of_own {w W w1 : World} {z0 z1 z2 z3 : Int} {st : List Int} {fr : List PFr} {hd : List PHd} {sta res cod : Int} {g1 g2 g3 : Nat} {s f h : Value}
    (hW : W.heap.size = w.heap.size + 2) (R1 : rowAt W w.heap.size 45 [.int .i64 z0, .int .i64 z1, .int .i64 z2, .int .i64 z3, s, f, h, .int .i64 sta, .int .u64 res, .int .i64 cod]) (R2 : rowAt W (w.heap.size + 1) 45 [.int .i64 0, .int .i64 0, .int .i64 0, .int .i64 0, .slice none 0 0, .slice none 0 0, .slice none 0 0, .int .i64 0, .int .u64 0, .int .i64 0]) (B : Below w.heap.size w W) (ho : OwnAt W w1 g1 g2 g3 ⟨z0, z1, z2, z3, st, fr, hd, sta, res, cod⟩) :
    ThIn w ((((((((((w1.setCell ⟨w.heap.size, 0, none⟩ (.int .i64 z0)).setCell ⟨w.heap.size, 1, none⟩ (.int .i64 z1)).setCell ⟨w.heap.size, 2, none⟩ (.int .i64 z2)).setCell ⟨w.heap.size, 3, none⟩ (.int .i64 z3)).setCell ⟨w.heap.size, 4, none⟩ (.slice (some ⟨g1, 0, none⟩) st.length st.length)).setCell ⟨w.heap.size, 5, none⟩ (.slice (some ⟨g2, 0, none⟩) fr.length fr.length)).setCell ⟨w.heap.size, 6, none⟩ (.slice (some ⟨g3, 0, none⟩) hd.length hd.length)).setCell ⟨w.heap.size, 7, none⟩ (.int .i64 sta)).setCell ⟨w.heap.size, 8, none⟩ (.int .u64 res)).setCell ⟨w.heap.size, 9, none⟩ (.int .i64 cod)) z0 z1 z2 z3 st fr hd sta res cod g1 g2 g3 := by
  obtain ⟨o1, o2, o3, a1, a2, a3, e1, e2, e3, hb⟩ := ho
  simp only at o1 o2 o3
  have q1 := R1.below hb (by omega)
  have q2 := R2.below hb (by omega)
  have hu : Upon (fun k => k = w.heap.size) w1 ((((((((((w1.setCell ⟨w.heap.size, 0, none⟩ (.int .i64 z0)).setCell ⟨w.heap.size, 1, none⟩ (.int .i64 z1)).setCell ⟨w.heap.size, 2, none⟩ (.int .i64 z2)).setCell ⟨w.heap.size, 3, none⟩ (.int .i64 z3)).setCell ⟨w.heap.size, 4, none⟩ (.slice (some ⟨g1, 0, none⟩) st.length st.length)).setCell ⟨w.heap.size, 5, none⟩ (.slice (some ⟨g2, 0, none⟩) fr.length fr.length)).setCell ⟨w.heap.size, 6, none⟩ (.slice (some ⟨g3, 0, none⟩) hd.length hd.length)).setCell ⟨w.heap.size, 7, none⟩ (.int .i64 sta)).setCell ⟨w.heap.size, 8, none⟩ (.int .u64 res)).setCell ⟨w.heap.size, 9, none⟩ (.int .i64 cod)) := by
    iterate 10 refine Upon.set1 ?_ (by rfl) _
    exact Upon.refl _ _
  refine ⟨?_, q2.upon hu (by omega), o1.upon hu (by omega), o2.upon hu (by omega), o3.upon hu (by omega), by omega, by omega, by omega, e1, e2, e3, (down_call B hb).trans (hu.belowB (down_call B hb).size fun k hk => by omega)⟩
  have q := ((((((((((q1.set 0 (.int .i64 z0)).set 1 (.int .i64 z1)).set 2 (.int .i64 z2)).set 3 (.int .i64 z3)).set 4 (.slice (some ⟨g1, 0, none⟩) st.length st.length)).set 5 (.slice (some ⟨g2, 0, none⟩) fr.length fr.length)).set 6 (.slice (some ⟨g3, 0, none⟩) hd.length hd.length)).set 7 (.int .i64 sta)).set 8 (.int .u64 res)).set 9 (.int .i64 cod))
  exact q
theorem ThIn.more {w W W' : World} {z0 z1 z2 z3 : Int} {st : List Int} {fr : List PFr} {hd : List PHd} {sta res cod : Int} {g1 g2 g3 : Nat} (h : ThIn w W z0 z1 z2 z3 st fr hd sta res cod g1 g2 g3) (hb : Below W.heap.size W W') : ThIn w W' z0 z1 z2 z3 st fr hd sta res cod g1 g2 g3 :=
  ⟨h.r1.below hb h.r1.lt, h.r2.below hb h.r2.lt, h.o1.below hb h.o1.lt, h.o2.below hb h.o2.lt, h.o3.below hb h.o3.lt, h.l1, h.l2, h.l3, h.n1, h.n2, h.n3, down_call h.hb hb⟩
theorem th_old {w W W' : World} {z0 z1 z2 z3 : Int} {st : List Int} {fr : List PFr} {hd : List PHd} {sta res cod : Int} {g1 g2 g3 : Nat} (h : ThIn w W z0 z1 z2 z3 st fr hd sta res cod g1 g2 g3) (hu : Upon (fun k => k = w.heap.size ∨ k = w.heap.size + 1) W W') (s2 : Int) :
    ThPost w ⟨z0, z1, z2, z3, st, fr, hd, s2, res, cod⟩ (.returned (maV z0 z1 z2 z3 (.slice (some ⟨g1, 0, none⟩) st.length st.length) (.slice (some ⟨g2, 0, none⟩) fr.length fr.length) (.slice (some ⟨g3, 0, none⟩) hd.length hd.length) s2 res cod)) W' := by
  have l1 := h.l1
  have l2 := h.l2
  have l3 := h.l3
  refine ⟨_, _, _, rfl, ⟨rd_row (h.o1.upon hu (by omega)) (by omega) fun _ _ e => e, rd_row (h.o2.upon hu (by omega)) (by omega) fun _ _ e => e, rd_row (h.o3.upon hu (by omega)) (by omega) fun _ _ e => e⟩, h.hb.trans (hu.belowB h.hb.size fun k hk => by omega)⟩


set_option maxHeartbeats 4000000 in
theorem throw_none {S : Nat → Prop} {w : World} {s f h : Value} {z0 z1 z2 z3 : Int} {st : List Int} {fr : List PFr} {hd : List PHd} {sta res cod : Int} {c : Int} (k : maAt S w s f h ⟨z0, z1, z2, z3, st, fr, hd, sta, res, cod⟩) (hF : maF ⟨z0, z1, z2, z3, st, fr, hd, sta, res, cod⟩) (h0 : hd.length = 0) :
    Calls Tryz.prog 20 #[maV z0 z1 z2 z3 s f h sta res cod, .int .i64 c] w (ThPost w (thNone ⟨z0, z1, z2, z3, st, fr, hd, sta, res, cod⟩ c)) := by
  have H0 := Lib.hid h0
  clear h0
  obtain ⟨k1, k2, k3⟩ := k
  obtain ⟨a1, c1, rfl⟩ := k1.slice
  obtain ⟨a2, c2, rfl⟩ := k2.slice
  obtain ⟨a3, c3, rfl⟩ := k3.slice
  obtain ⟨W, hW⟩ : ∃ W, (w.alloc (.cells #[.int .i64 z0, .int .i64 z1, .int .i64 z2, .int .i64 z3, .slice a1 st.length c1, .slice a2 fr.length c2, .slice a3 hd.length c3, .int .i64 sta, .int .u64 res, .int .i64 cod] 45)).alloc (.cells #[.int .i64 0, .int .i64 0, .int .i64 0, .int .i64 0, .slice none 0 0, .slice none 0 0, .slice none 0 0, .int .i64 0, .int .u64 0, .int .i64 0] 45) = W := ⟨_, rfl⟩
  have BW := Lib.hid (show Below w.heap.size w W by rw [← hW]; exact down_alloc (down_alloc (Below.refl _ _) _) _)
  have r1 := rowAt.made w 45 [.int .i64 z0, .int .i64 z1, .int .i64 z2, .int .i64 z3, .slice a1 st.length c1, .slice a2 fr.length c2, .slice a3 hd.length c3, .int .i64 sta, .int .u64 res, .int .i64 cod]
  have r2 := rowAt.made_at (w := w.alloc (.cells #[.int .i64 z0, .int .i64 z1, .int .i64 z2, .int .i64 z3, .slice a1 st.length c1, .slice a2 fr.length c2, .slice a3 hd.length c3, .int .i64 sta, .int .u64 res, .int .i64 cod] 45)) (b := w.heap.size + 1) 45 [.int .i64 0, .int .i64 0, .int .i64 0, .int .i64 0, .slice none 0 0, .slice none 0 0, .slice none 0 0, .int .i64 0, .int .u64 0, .int .i64 0] (by simp)
  have R1 := Lib.hid (show rowAt W w.heap.size 45 [.int .i64 z0, .int .i64 z1, .int .i64 z2, .int .i64 z3, .slice a1 st.length c1, .slice a2 fr.length c2, .slice a3 hd.length c3, .int .i64 sta, .int .u64 res, .int .i64 cod] by rw [← hW]; exact r1.alloc _)
  have R2 := Lib.hid (show rowAt W (w.heap.size + 1) 45 [.int .i64 0, .int .i64 0, .int .i64 0, .int .i64 0, .slice none 0 0, .slice none 0 0, .slice none 0 0, .int .i64 0, .int .u64 0, .int .i64 0] by rw [← hW]; exact r2)
  have HS := Lib.hid (show W.heap.size = w.heap.size + 2 by rw [← hW]; simp)
  have KK := Lib.hid (show maAt S W (.slice a1 st.length c1) (.slice a2 fr.length c2) (.slice a3 hd.length c3) ⟨z0, z1, z2, z3, st, fr, hd, sta, res, cod⟩ from ⟨k1.below BW.out, k2.below BW.out, k3.below BW.out⟩)
  have HF := Lib.hid hF
  obtain ⟨d0, d1, d2, d3, d4, d5, d6, d7, d8, d9⟩ := cells10 R1.out
  clear k1 k2 k3 hF r1 r2
  go_enter Tryz.func20, Tryz.ntmps20
  go_wp2_with fail
  refine (own_any (M := ⟨z0, z1, z2, z3, st, fr, hd, sta, res, cod⟩) KK.out HF.out).mono ?_
  rintro e w1 ⟨g1, g2, g3, rfl, ho⟩
  simp only
  have HO := Lib.hid ho
  have x1 := R1.out.below ho.2.2.2.2.2.2.2.2.2 R1.out.lt
  obtain ⟨d0, d1, d2, d3, d4, d5, d6, d7, d8, d9⟩ := cells10 x1
  obtain ⟨p0, p1, p2, p3, p4, p5, p6, p7, p8, p9⟩ := frees10 x1
  have xl := x1.lt
  obtain ⟨W2, hW2⟩ : ∃ W2, (((((((((w1.setCell ⟨w.heap.size, 0, none⟩ (.int .i64 z0)).setCell ⟨w.heap.size, 1, none⟩ (.int .i64 z1)).setCell ⟨w.heap.size, 2, none⟩ (.int .i64 z2)).setCell ⟨w.heap.size, 3, none⟩ (.int .i64 z3)).setCell ⟨w.heap.size, 4, none⟩ (.slice (some ⟨g1, 0, none⟩) st.length st.length)).setCell ⟨w.heap.size, 5, none⟩ (.slice (some ⟨g2, 0, none⟩) fr.length fr.length)).setCell ⟨w.heap.size, 6, none⟩ (.slice (some ⟨g3, 0, none⟩) hd.length hd.length)).setCell ⟨w.heap.size, 7, none⟩ (.int .i64 sta)).setCell ⟨w.heap.size, 8, none⟩ (.int .u64 res)).setCell ⟨w.heap.size, 9, none⟩ (.int .i64 cod) = W2 := ⟨_, rfl⟩
  have I := Lib.hid (show ThIn w W2 z0 z1 z2 z3 st fr hd sta res cod g1 g2 g3 by rw [← hW2]; exact ThIn.of_own HS.out R1.out R2.out BW.out HO.out)
  obtain ⟨e0, e1, e2, e3, e4, e5, e6, e7, e8, e9⟩ := cells10 I.out.r1
  obtain ⟨q0, q1, q2, q3, q4, q5, q6, q7, q8, q9⟩ := frees10 I.out.r1
  obtain ⟨f0, f1, f2, f3, f4, f5, f6, f7, f8, f9⟩ := cells10 I.out.r2
  obtain ⟨u0, u1, u2, u3, u4, u5, u6, u7, u8, u9⟩ := frees10 I.out.r2
  have il := I.out.r1.lt
  have il2 := I.out.r2.lt
  clear ho x1
  have t0 : (((hd.length : Nat) : Int) == 0) = true := by simp [H0.out]
  have NIL := Lib.hid ((I.out.r1.set 4 (.slice none 0 0)).set 5 (.slice none 0 0))
  have NB := Lib.hid (show Below w.heap.size w ((W2.setCell ⟨w.heap.size, 4, none⟩ (.slice none 0 0)).setCell ⟨w.heap.size, 5, none⟩ (.slice none 0 0)) from down_set (down_set I.out.hb (by simp) _) (by simp) _)
  have NZ := Lib.hid (((I.out.r2.other ⟨w.heap.size, 4, none⟩ (.slice none 0 0) (by simp)).other ⟨w.heap.size, 5, none⟩ (.slice none 0 0) (by simp)))
  go_wp2_with fail
  clear hW2 hW e0 e1 e2 e3 e4 e5 e6 e7 e8 e9 q0 q1 q2 q3 q4 q5 q6 q7 q8 q9 f0 f1 f2 f3 f4 f5 f6 f7 f8 f9 u0 u1 u2 u3 u4 u5 u6 u7 u8 u9 il il2 d0 d1 d2 d3 d4 d5 d6 d7 d8 d9 p0 p1 p2 p3 p4 p5 p6 p7 p8 p9 xl
  refine (wrap_any c _).mono ?_
  rintro e w4 ⟨rfl, hb4⟩
  have r4 := NIL.out.below hb4 NIL.out.lt
  have z4 := NZ.out.below hb4 NZ.out.lt
  have B4 := Lib.hid (down_call NB.out hb4)
  obtain ⟨e0, e1, e2, e3, e4, e5, e6, e7, e8, e9⟩ := cells10 (show rowAt w4 w.heap.size 45 [.int .i64 z0, .int .i64 z1, .int .i64 z2, .int .i64 z3, .slice none 0 0, .slice none 0 0, .slice (some ⟨g3, 0, none⟩) hd.length hd.length, .int .i64 sta, .int .u64 res, .int .i64 cod] from r4)
  obtain ⟨q0, q1, q2, q3, q4, q5, q6, q7, q8, q9⟩ := frees10 r4
  obtain ⟨f0, f1, f2, f3, f4, f5, f6, f7, f8, f9⟩ := cells10 z4
  obtain ⟨u0, u1, u2, u3, u4, u5, u6, u7, u8, u9⟩ := frees10 z4
  have l4 := r4.lt
  have l5 := z4.lt
  clear r4 z4 hb4
  go_wp2_with fail
  refine bodyPost_ret (v := maV z0 z1 z2 z3 (.slice none 0 0) (.slice none 0 0) (.slice (some ⟨g3, 0, none⟩) hd.length hd.length) 3 res (wWrap c)) (by simp [results, Tryz.results20, go_sem, f0, f1, f2, f3, f4, f5, f6, f7, f8, f9]) rfl ?_
  refine ⟨_, _, _, rfl, ⟨rd_nil, rd_nil, ⟨_, _, rfl, .inl H0.out⟩⟩, ?_⟩
  iterate 12 refine down_set ?_ (by simp) _
  exact B4.out


set_option maxHeartbeats 4000000 in
theorem throw_bad1 {S : Nat → Prop} {w : World} {s f h : Value} {z0 z1 z2 z3 : Int} {st : List Int} {fr : List PFr} {hd : List PHd} {sta res cod : Int} {c : Int} (k : maAt S w s f h ⟨z0, z1, z2, z3, st, fr, hd, sta, res, cod⟩) (hF : maF ⟨z0, z1, z2, z3, st, fr, hd, sta, res, cod⟩) {n : Nat} {F H PC : Int} (hn : hd.length = n + 1) (hg : hd[n]? = some (F, H, PC)) (hb : inF F 1 fr.length = false) :
    Calls Tryz.prog 20 #[maV z0 z1 z2 z3 s f h sta res cod, .int .i64 c] w (ThPost w ({ (⟨z0, z1, z2, z3, st, fr, hd, sta, res, cod⟩ : PMa) with state := 7 })) := by
  have HB := Lib.hid hb
  clear hb
  have HG := Lib.hid hg
  have HN := Lib.hid hn
  clear hg hn
  obtain ⟨k1, k2, k3⟩ := k
  obtain ⟨a1, c1, rfl⟩ := k1.slice
  obtain ⟨a2, c2, rfl⟩ := k2.slice
  obtain ⟨a3, c3, rfl⟩ := k3.slice
  obtain ⟨W, hW⟩ : ∃ W, (w.alloc (.cells #[.int .i64 z0, .int .i64 z1, .int .i64 z2, .int .i64 z3, .slice a1 st.length c1, .slice a2 fr.length c2, .slice a3 hd.length c3, .int .i64 sta, .int .u64 res, .int .i64 cod] 45)).alloc (.cells #[.int .i64 0, .int .i64 0, .int .i64 0, .int .i64 0, .slice none 0 0, .slice none 0 0, .slice none 0 0, .int .i64 0, .int .u64 0, .int .i64 0] 45) = W := ⟨_, rfl⟩
  have BW := Lib.hid (show Below w.heap.size w W by rw [← hW]; exact down_alloc (down_alloc (Below.refl _ _) _) _)
  have r1 := rowAt.made w 45 [.int .i64 z0, .int .i64 z1, .int .i64 z2, .int .i64 z3, .slice a1 st.length c1, .slice a2 fr.length c2, .slice a3 hd.length c3, .int .i64 sta, .int .u64 res, .int .i64 cod]
  have r2 := rowAt.made_at (w := w.alloc (.cells #[.int .i64 z0, .int .i64 z1, .int .i64 z2, .int .i64 z3, .slice a1 st.length c1, .slice a2 fr.length c2, .slice a3 hd.length c3, .int .i64 sta, .int .u64 res, .int .i64 cod] 45)) (b := w.heap.size + 1) 45 [.int .i64 0, .int .i64 0, .int .i64 0, .int .i64 0, .slice none 0 0, .slice none 0 0, .slice none 0 0, .int .i64 0, .int .u64 0, .int .i64 0] (by simp)
  have R1 := Lib.hid (show rowAt W w.heap.size 45 [.int .i64 z0, .int .i64 z1, .int .i64 z2, .int .i64 z3, .slice a1 st.length c1, .slice a2 fr.length c2, .slice a3 hd.length c3, .int .i64 sta, .int .u64 res, .int .i64 cod] by rw [← hW]; exact r1.alloc _)
  have R2 := Lib.hid (show rowAt W (w.heap.size + 1) 45 [.int .i64 0, .int .i64 0, .int .i64 0, .int .i64 0, .slice none 0 0, .slice none 0 0, .slice none 0 0, .int .i64 0, .int .u64 0, .int .i64 0] by rw [← hW]; exact r2)
  have HS := Lib.hid (show W.heap.size = w.heap.size + 2 by rw [← hW]; simp)
  have KK := Lib.hid (show maAt S W (.slice a1 st.length c1) (.slice a2 fr.length c2) (.slice a3 hd.length c3) ⟨z0, z1, z2, z3, st, fr, hd, sta, res, cod⟩ from ⟨k1.below BW.out, k2.below BW.out, k3.below BW.out⟩)
  have HF := Lib.hid hF
  obtain ⟨d0, d1, d2, d3, d4, d5, d6, d7, d8, d9⟩ := cells10 R1.out
  clear k1 k2 k3 hF r1 r2
  go_enter Tryz.func20, Tryz.ntmps20
  go_wp2_with fail
  refine (own_any (M := ⟨z0, z1, z2, z3, st, fr, hd, sta, res, cod⟩) KK.out HF.out).mono ?_
  rintro e w1 ⟨g1, g2, g3, rfl, ho⟩
  simp only
  have HO := Lib.hid ho
  have x1 := R1.out.below ho.2.2.2.2.2.2.2.2.2 R1.out.lt
  obtain ⟨d0, d1, d2, d3, d4, d5, d6, d7, d8, d9⟩ := cells10 x1
  obtain ⟨p0, p1, p2, p3, p4, p5, p6, p7, p8, p9⟩ := frees10 x1
  have xl := x1.lt
  obtain ⟨W2, hW2⟩ : ∃ W2, (((((((((w1.setCell ⟨w.heap.size, 0, none⟩ (.int .i64 z0)).setCell ⟨w.heap.size, 1, none⟩ (.int .i64 z1)).setCell ⟨w.heap.size, 2, none⟩ (.int .i64 z2)).setCell ⟨w.heap.size, 3, none⟩ (.int .i64 z3)).setCell ⟨w.heap.size, 4, none⟩ (.slice (some ⟨g1, 0, none⟩) st.length st.length)).setCell ⟨w.heap.size, 5, none⟩ (.slice (some ⟨g2, 0, none⟩) fr.length fr.length)).setCell ⟨w.heap.size, 6, none⟩ (.slice (some ⟨g3, 0, none⟩) hd.length hd.length)).setCell ⟨w.heap.size, 7, none⟩ (.int .i64 sta)).setCell ⟨w.heap.size, 8, none⟩ (.int .u64 res)).setCell ⟨w.heap.size, 9, none⟩ (.int .i64 cod) = W2 := ⟨_, rfl⟩
  have I := Lib.hid (show ThIn w W2 z0 z1 z2 z3 st fr hd sta res cod g1 g2 g3 by rw [← hW2]; exact ThIn.of_own HS.out R1.out R2.out BW.out HO.out)
  obtain ⟨e0, e1, e2, e3, e4, e5, e6, e7, e8, e9⟩ := cells10 I.out.r1
  obtain ⟨q0, q1, q2, q3, q4, q5, q6, q7, q8, q9⟩ := frees10 I.out.r1
  obtain ⟨f0, f1, f2, f3, f4, f5, f6, f7, f8, f9⟩ := cells10 I.out.r2
  obtain ⟨u0, u1, u2, u3, u4, u5, u6, u7, u8, u9⟩ := frees10 I.out.r2
  have il := I.out.r1.lt
  have il2 := I.out.r2.lt
  clear ho x1
  have t0 : (((hd.length : Nat) : Int) == 0) = false := by rw [beq_eq_false_iff_ne]; have := HN.out; omega
  have t1 : ((hd.length : Nat) : Int) - 1 = (n : Int) := by have := HN.out; omega
  have t2 : n < hd.length := by have := HN.out; omega
  have t3 : wrap64 (n : Int) = n := by have h1 : hd.length ≤ 100000 := HF.out.n3; have := HN.out; unfold wrap64; omega
  obtain ⟨h0, h1, h2⟩ := hdL_get hd n _ HG.out
  have j0 : W2.cell? ⟨g3, n * 3, none⟩ = some (.int .i64 F) := (I.out.o3.cell _).trans h0
  have j1 : W2.cell? ⟨g3, n * 3 + 1, none⟩ = some (.int .i64 H) := (I.out.o3.cell _).trans h1
  have j2 : W2.cell? ⟨g3, n * 3 + 2, none⟩ = some (.int .i64 PC) := (I.out.o3.cell _).trans h2
  clear h0 h1 h2
  obtain ⟨W3, hW3⟩ : ∃ W3, W2.alloc (.cells #[.int .i64 F, .int .i64 H, .int .i64 PC] 63) = W3 := ⟨_, rfl⟩
  have RH := Lib.hid (show rowAt W3 W2.heap.size 63 [.int .i64 F, .int .i64 H, .int .i64 PC] by rw [← hW3]; exact rowAt.made _ _ _)
  have I3 := Lib.hid (show ThIn w W3 z0 z1 z2 z3 st fr hd sta res cod g1 g2 g3 from I.out.more (by rw [← hW3]; exact down_alloc (Below.refl _ _) _))
  have HZ := Lib.hid (show w.heap.size + 1 < W2.heap.size ∧ g1 < W2.heap.size ∧ g2 < W2.heap.size ∧ g3 < W2.heap.size from ⟨I.out.r2.lt, I.out.o1.lt, I.out.o2.lt, I.out.o3.lt⟩)
  have j0' : W3.cell? ⟨W2.heap.size, 0, none⟩ = some (.int .i64 F) := RH.out.cell 0
  have j1' : W3.cell? ⟨W2.heap.size, 1, none⟩ = some (.int .i64 H) := RH.out.cell 1
  have j2' : W3.cell? ⟨W2.heap.size, 2, none⟩ = some (.int .i64 PC) := RH.out.cell 2
  obtain ⟨x0, x1, x2, x3, x4, x5, x6, x7, x8, x9⟩ := cells10 I3.out.r1
  obtain ⟨y0, y1, y2, y3, y4, y5, y6, y7, y8, y9⟩ := frees10 I3.out.r1
  obtain ⟨v0, v1, v2, v3, v4, v5, v6, v7, v8, v9⟩ := cells10 I3.out.r2
  obtain ⟨m0, m1, m2, m3, m4, m5, m6, m7, m8, m9⟩ := frees10 I3.out.r2
  have jl := I3.out.r1.lt
  have jl2 := I3.out.r2.lt
  go_wp2_with fail
  clear hW3 hW2 hW e0 e1 e2 e3 e4 e5 e6 e7 e8 e9 q0 q1 q2 q3 q4 q5 q6 q7 q8 q9 f0 f1 f2 f3 f4 f5 f6 f7 f8 f9 u0 u1 u2 u3 u4 u5 u6 u7 u8 u9 il il2 d0 d1 d2 d3 d4 d5 d6 d7 d8 d9 p0 p1 p2 p3 p4 p5 p6 p7 p8 p9 xl j0 j1 j2
  refine (within_is HB.out _).mono ?_
  rintro e w4 ⟨rfl, rfl⟩
  go_wp2_with fail
  refine bodyPost_ret (v := maV z0 z1 z2 z3 (.slice (some ⟨g1, 0, none⟩) st.length st.length) (.slice (some ⟨g2, 0, none⟩) fr.length fr.length) (.slice (some ⟨g3, 0, none⟩) hd.length hd.length) 7 res cod) (by simp [results, Tryz.results20, go_sem, v0, v1, v2, v3, v4, v5, v6, v7, v8, v9]) rfl (th_old I3.out ?_ 7)
  iterate 11 refine Upon.set1 ?_ (by simp) _
  exact Upon.refl _ _


set_option maxHeartbeats 4000000 in
theorem throw_bad2 {S : Nat → Prop} {w : World} {s f h : Value} {z0 z1 z2 z3 : Int} {st : List Int} {fr : List PFr} {hd : List PHd} {sta res cod : Int} {c : Int} (k : maAt S w s f h ⟨z0, z1, z2, z3, st, fr, hd, sta, res, cod⟩) (hF : maF ⟨z0, z1, z2, z3, st, fr, hd, sta, res, cod⟩) {n : Nat} {F H PC : Int} (hn : hd.length = n + 1) (hg : hd[n]? = some (F, H, PC)) (ha : inF F 1 fr.length = true) (hb : inF H 0 st.length = false) :
    Calls Tryz.prog 20 #[maV z0 z1 z2 z3 s f h sta res cod, .int .i64 c] w (ThPost w ({ (⟨z0, z1, z2, z3, st, fr, hd, sta, res, cod⟩ : PMa) with state := 7 })) := by
  have HA := Lib.hid ha
  have HB := Lib.hid hb
  clear ha hb
  have HG := Lib.hid hg
  have HN := Lib.hid hn
  clear hg hn
  obtain ⟨k1, k2, k3⟩ := k
  obtain ⟨a1, c1, rfl⟩ := k1.slice
  obtain ⟨a2, c2, rfl⟩ := k2.slice
  obtain ⟨a3, c3, rfl⟩ := k3.slice
  obtain ⟨W, hW⟩ : ∃ W, (w.alloc (.cells #[.int .i64 z0, .int .i64 z1, .int .i64 z2, .int .i64 z3, .slice a1 st.length c1, .slice a2 fr.length c2, .slice a3 hd.length c3, .int .i64 sta, .int .u64 res, .int .i64 cod] 45)).alloc (.cells #[.int .i64 0, .int .i64 0, .int .i64 0, .int .i64 0, .slice none 0 0, .slice none 0 0, .slice none 0 0, .int .i64 0, .int .u64 0, .int .i64 0] 45) = W := ⟨_, rfl⟩
  have BW := Lib.hid (show Below w.heap.size w W by rw [← hW]; exact down_alloc (down_alloc (Below.refl _ _) _) _)
  have r1 := rowAt.made w 45 [.int .i64 z0, .int .i64 z1, .int .i64 z2, .int .i64 z3, .slice a1 st.length c1, .slice a2 fr.length c2, .slice a3 hd.length c3, .int .i64 sta, .int .u64 res, .int .i64 cod]
  have r2 := rowAt.made_at (w := w.alloc (.cells #[.int .i64 z0, .int .i64 z1, .int .i64 z2, .int .i64 z3, .slice a1 st.length c1, .slice a2 fr.length c2, .slice a3 hd.length c3, .int .i64 sta, .int .u64 res, .int .i64 cod] 45)) (b := w.heap.size + 1) 45 [.int .i64 0, .int .i64 0, .int .i64 0, .int .i64 0, .slice none 0 0, .slice none 0 0, .slice none 0 0, .int .i64 0, .int .u64 0, .int .i64 0] (by simp)
  have R1 := Lib.hid (show rowAt W w.heap.size 45 [.int .i64 z0, .int .i64 z1, .int .i64 z2, .int .i64 z3, .slice a1 st.length c1, .slice a2 fr.length c2, .slice a3 hd.length c3, .int .i64 sta, .int .u64 res, .int .i64 cod] by rw [← hW]; exact r1.alloc _)
  have R2 := Lib.hid (show rowAt W (w.heap.size + 1) 45 [.int .i64 0, .int .i64 0, .int .i64 0, .int .i64 0, .slice none 0 0, .slice none 0 0, .slice none 0 0, .int .i64 0, .int .u64 0, .int .i64 0] by rw [← hW]; exact r2)
  have HS := Lib.hid (show W.heap.size = w.heap.size + 2 by rw [← hW]; simp)
  have KK := Lib.hid (show maAt S W (.slice a1 st.length c1) (.slice a2 fr.length c2) (.slice a3 hd.length c3) ⟨z0, z1, z2, z3, st, fr, hd, sta, res, cod⟩ from ⟨k1.below BW.out, k2.below BW.out, k3.below BW.out⟩)
  have HF := Lib.hid hF
  obtain ⟨d0, d1, d2, d3, d4, d5, d6, d7, d8, d9⟩ := cells10 R1.out
  clear k1 k2 k3 hF r1 r2
  go_enter Tryz.func20, Tryz.ntmps20
  go_wp2_with fail
  refine (own_any (M := ⟨z0, z1, z2, z3, st, fr, hd, sta, res, cod⟩) KK.out HF.out).mono ?_
  rintro e w1 ⟨g1, g2, g3, rfl, ho⟩
  simp only
  have HO := Lib.hid ho
  have x1 := R1.out.below ho.2.2.2.2.2.2.2.2.2 R1.out.lt
  obtain ⟨d0, d1, d2, d3, d4, d5, d6, d7, d8, d9⟩ := cells10 x1
  obtain ⟨p0, p1, p2, p3, p4, p5, p6, p7, p8, p9⟩ := frees10 x1
  have xl := x1.lt
  obtain ⟨W2, hW2⟩ : ∃ W2, (((((((((w1.setCell ⟨w.heap.size, 0, none⟩ (.int .i64 z0)).setCell ⟨w.heap.size, 1, none⟩ (.int .i64 z1)).setCell ⟨w.heap.size, 2, none⟩ (.int .i64 z2)).setCell ⟨w.heap.size, 3, none⟩ (.int .i64 z3)).setCell ⟨w.heap.size, 4, none⟩ (.slice (some ⟨g1, 0, none⟩) st.length st.length)).setCell ⟨w.heap.size, 5, none⟩ (.slice (some ⟨g2, 0, none⟩) fr.length fr.length)).setCell ⟨w.heap.size, 6, none⟩ (.slice (some ⟨g3, 0, none⟩) hd.length hd.length)).setCell ⟨w.heap.size, 7, none⟩ (.int .i64 sta)).setCell ⟨w.heap.size, 8, none⟩ (.int .u64 res)).setCell ⟨w.heap.size, 9, none⟩ (.int .i64 cod) = W2 := ⟨_, rfl⟩
  have I := Lib.hid (show ThIn w W2 z0 z1 z2 z3 st fr hd sta res cod g1 g2 g3 by rw [← hW2]; exact ThIn.of_own HS.out R1.out R2.out BW.out HO.out)
  obtain ⟨e0, e1, e2, e3, e4, e5, e6, e7, e8, e9⟩ := cells10 I.out.r1
  obtain ⟨q0, q1, q2, q3, q4, q5, q6, q7, q8, q9⟩ := frees10 I.out.r1
  obtain ⟨f0, f1, f2, f3, f4, f5, f6, f7, f8, f9⟩ := cells10 I.out.r2
  obtain ⟨u0, u1, u2, u3, u4, u5, u6, u7, u8, u9⟩ := frees10 I.out.r2
  have il := I.out.r1.lt
  have il2 := I.out.r2.lt
  clear ho x1
  have t0 : (((hd.length : Nat) : Int) == 0) = false := by rw [beq_eq_false_iff_ne]; have := HN.out; omega
  have t1 : ((hd.length : Nat) : Int) - 1 = (n : Int) := by have := HN.out; omega
  have t2 : n < hd.length := by have := HN.out; omega
  have t3 : wrap64 (n : Int) = n := by have h1 : hd.length ≤ 100000 := HF.out.n3; have := HN.out; unfold wrap64; omega
  obtain ⟨h0, h1, h2⟩ := hdL_get hd n _ HG.out
  have j0 : W2.cell? ⟨g3, n * 3, none⟩ = some (.int .i64 F) := (I.out.o3.cell _).trans h0
  have j1 : W2.cell? ⟨g3, n * 3 + 1, none⟩ = some (.int .i64 H) := (I.out.o3.cell _).trans h1
  have j2 : W2.cell? ⟨g3, n * 3 + 2, none⟩ = some (.int .i64 PC) := (I.out.o3.cell _).trans h2
  clear h0 h1 h2
  obtain ⟨W3, hW3⟩ : ∃ W3, W2.alloc (.cells #[.int .i64 F, .int .i64 H, .int .i64 PC] 63) = W3 := ⟨_, rfl⟩
  have RH := Lib.hid (show rowAt W3 W2.heap.size 63 [.int .i64 F, .int .i64 H, .int .i64 PC] by rw [← hW3]; exact rowAt.made _ _ _)
  have I3 := Lib.hid (show ThIn w W3 z0 z1 z2 z3 st fr hd sta res cod g1 g2 g3 from I.out.more (by rw [← hW3]; exact down_alloc (Below.refl _ _) _))
  have HZ := Lib.hid (show w.heap.size + 1 < W2.heap.size ∧ g1 < W2.heap.size ∧ g2 < W2.heap.size ∧ g3 < W2.heap.size from ⟨I.out.r2.lt, I.out.o1.lt, I.out.o2.lt, I.out.o3.lt⟩)
  have j0' : W3.cell? ⟨W2.heap.size, 0, none⟩ = some (.int .i64 F) := RH.out.cell 0
  have j1' : W3.cell? ⟨W2.heap.size, 1, none⟩ = some (.int .i64 H) := RH.out.cell 1
  have j2' : W3.cell? ⟨W2.heap.size, 2, none⟩ = some (.int .i64 PC) := RH.out.cell 2
  obtain ⟨x0, x1, x2, x3, x4, x5, x6, x7, x8, x9⟩ := cells10 I3.out.r1
  obtain ⟨y0, y1, y2, y3, y4, y5, y6, y7, y8, y9⟩ := frees10 I3.out.r1
  obtain ⟨v0, v1, v2, v3, v4, v5, v6, v7, v8, v9⟩ := cells10 I3.out.r2
  obtain ⟨m0, m1, m2, m3, m4, m5, m6, m7, m8, m9⟩ := frees10 I3.out.r2
  have jl := I3.out.r1.lt
  have jl2 := I3.out.r2.lt
  go_wp2_with fail
  clear hW3 hW2 hW e0 e1 e2 e3 e4 e5 e6 e7 e8 e9 q0 q1 q2 q3 q4 q5 q6 q7 q8 q9 f0 f1 f2 f3 f4 f5 f6 f7 f8 f9 u0 u1 u2 u3 u4 u5 u6 u7 u8 u9 il il2 d0 d1 d2 d3 d4 d5 d6 d7 d8 d9 p0 p1 p2 p3 p4 p5 p6 p7 p8 p9 xl j0 j1 j2
  refine (within_is HA.out _).mono ?_
  rintro e w4 ⟨rfl, rfl⟩
  go_wp2_with fail
  refine (within_is HB.out _).mono ?_
  rintro e w5 ⟨rfl, rfl⟩
  go_wp2_with fail
  refine bodyPost_ret (v := maV z0 z1 z2 z3 (.slice (some ⟨g1, 0, none⟩) st.length st.length) (.slice (some ⟨g2, 0, none⟩) fr.length fr.length) (.slice (some ⟨g3, 0, none⟩) hd.length hd.length) 7 res cod) (by simp [results, Tryz.results20, go_sem, v0, v1, v2, v3, v4, v5, v6, v7, v8, v9]) rfl (th_old I3.out ?_ 7)
  iterate 11 refine Upon.set1 ?_ (by simp) _
  exact Upon.refl _ _


theorem src_rowF {w : World} {b : Nat} {T : TypeId} {xs : List Value} (h : rowAt w b T xs) (m : Nat) : m = 0 ∨ ∃ ad, (some (⟨b, 0, none⟩ : Addr)) = some ad ∧ ∀ j u, xs[j]? = some u → w.cell? (ad.add j) = some u := by
  refine .inr ⟨_, rfl, fun j u hj => ?_⟩
  rw [Addr.add_lit, h.cell, Nat.zero_add]
  exact hj
theorem one_w (r : Int) : ∀ v ∈ [Value.int .u64 r], v.oneCell' = true := by
  intro v hv
  obtain rfl := List.mem_singleton.1 hv
  rfl
/-- Behind the code's word: the stack anew. -/
structure ThC (w W : World) (z0 z1 z2 z3 : Int) (st : List Int) (fr : List PFr) (hd : List PHd) (sta res cod : Int) (g2 g3 gh : Nat) (F H PC : Int) (m : Nat) (c : Int) (a : Option Addr) (ca : Nat) : Prop where
  r1 : rowAt W w.heap.size 45 [.int .i64 z0, .int .i64 z1, .int .i64 z2, .int .i64 z3, .slice a (m + 1) ca, .slice (some ⟨g2, 0, none⟩) fr.length fr.length, .slice (some ⟨g3, 0, none⟩) hd.length hd.length, .int .i64 sta, .int .u64 res, .int .i64 cod]
  r2 : rowAt W (w.heap.size + 1) 45 [.int .i64 0, .int .i64 0, .int .i64 0, .int .i64 0, .slice none 0 0, .slice none 0 0, .slice none 0 0, .int .i64 0, .int .u64 0, .int .i64 0]
  own : W.ownsRow 0 43 1 (.slice a (m + 1) ca) (m + 1) (wdL (st.take m) ++ [.int .u64 (wInt c)])
  far : ∀ g, (Value.slice a (m + 1) ca).ownBlock = some g → w.heap.size + 1 < g ∧ g ≠ g2 ∧ g ≠ g3
  o2 : rowAt W g2 65 (frL fr)
  o3 : rowAt W g3 63 (hdL hd)
  rh : rowAt W gh 63 [.int .i64 F, .int .i64 H, .int .i64 PC]
  l2 : w.heap.size + 1 < g2
  l3 : w.heap.size + 1 < g3
  lh : w.heap.size + 1 < gh
  n3 : g2 ≠ g3
  n4 : g2 ≠ gh
  n5 : g3 ≠ gh
  hb : Below w.heap.size w W
theorem ThC.of {w W3 X w2 : World} {z0 z1 z2 z3 : Int} {st : List Int} {fr : List PFr} {hd : List PHd} {sta res cod : Int} {g1 g2 g3 gh : Nat} {F H PC : Int} {m : Nat} {c : Int} {a : Option Addr} {ca : Nat} {cb : Nat}
    (I : ThIn w W3 z0 z1 z2 z3 st fr hd sta res cod g1 g2 g3) (RH : rowAt W3 gh 63 [.int .i64 F, .int .i64 H, .int .i64 PC]) (lh : w.heap.size + 1 < gh ∧ g1 < gh ∧ g2 < gh ∧ g3 < gh) (hX : Below W3.heap.size W3 X)
    (ho : w2.ownsRow 0 43 1 (.slice a (m + 1) ca) (m + 1) (wdL (st.take m) ++ [.int .u64 (wInt c)])) (hg : X.grownBy w2 (Value.slice (some ⟨g1, 0, none⟩) m cb).ownBlock)
    (hn : (Value.slice a (m + 1) ca).ownBlock = (Value.slice (some ⟨g1, 0, none⟩) m cb).ownBlock ∨ (Value.slice a (m + 1) ca).ownBlock = some X.heap.size) :
    rowAt w2 w.heap.size 45 [.int .i64 z0, .int .i64 z1, .int .i64 z2, .int .i64 z3, .slice (some ⟨g1, 0, none⟩) st.length st.length, .slice (some ⟨g2, 0, none⟩) fr.length fr.length, .slice (some ⟨g3, 0, none⟩) hd.length hd.length, .int .i64 sta, .int .u64 res, .int .i64 cod] ∧
    ThC w (w2.setCell ⟨w.heap.size, 4, none⟩ (.slice a (m + 1) ca)) z0 z1 z2 z3 st fr hd sta res cod g2 g3 gh F H PC m c a ca := by
  have hu : Upon (fun k => k = g1) W3 w2 := (Upon.of_below hX).trans (Upon.grown (S := fun k => k = g1) hg (fun k hk => by cases hk; rfl)) (fun i hi h => h)
  have l1 := I.l1
  have k1 := I.l2
  have k2 := I.l3
  have n1 := I.n1
  have n2 := I.n2
  have n3 := I.n3
  have r1 := I.r1.upon hu (by omega)
  have fx : ∀ g, (Value.slice a (m + 1) ca).ownBlock = some g → w.heap.size + 1 < g ∧ g ≠ g2 ∧ g ≠ g3 := fun g hg => by
    rcases hn with h | h
    · rw [h] at hg; cases hg; exact ⟨l1, n1, n2⟩
    · rw [h] at hg; cases hg
      have s1 := hX.size
      have s2 := I.r2.lt
      have s3 := I.o2.lt
      have s4 := I.o3.lt
      exact ⟨by omega, by omega, by omega⟩
  refine ⟨r1, r1.set 4 _, (I.r2.upon hu (by omega)).other _ _ (by simp), owns_upon ho (Upon.setCell (S := fun k => k = w.heap.size) _ _ rfl) (fun g hg e => by have := (fx g hg).1; omega), fx, (I.o2.upon hu (by omega)).other _ _ (by simp; omega), (I.o3.upon hu (by omega)).other _ _ (by simp; omega), (RH.upon hu (by omega)).other _ _ (by simp; omega), k1, k2, lh.1, n3, by omega, by omega, ?_⟩
  exact down_set (I.hb.trans (hu.belowB I.hb.size fun k hk => by omega)) (by simp) _
theorem th_new {w W' : World} {z0 z1 z2 z3 : Int} {st : List Int} {fr : List PFr} {hd : List PHd} {sta res cod : Int} {g2 g3 : Nat} {PC : Int} {n m kf : Nat} {c : Int} {a : Option Addr} {ca c2 c3 : Nat}
    (own : W'.ownsRow 0 43 1 (.slice a (m + 1) ca) (m + 1) (wdL (st.take m) ++ [.int .u64 (wInt c)])) (far : ∀ g, (Value.slice a (m + 1) ca).ownBlock = some g → w.heap.size + 1 < g ∧ g ≠ g2 ∧ g ≠ g3)
    (o2 : rowAt W' g2 65 ((frL fr).set (kf * 4 + 1) (.int .i64 PC))) (o3 : rowAt W' g3 63 (hdL hd)) (l2 : w.heap.size + 1 < g2) (l3 : w.heap.size + 1 < g3) (hn : hd.length = n + 1) (hk : kf < fr.length) (hm : m ≤ st.length) (hb : Below w.heap.size w W') :
    ThPost w (thTo ⟨z0, z1, z2, z3, st, fr, hd, sta, res, cod⟩ ((kf : Int) + 1, (m : Int), PC) c) (.returned (maV z0 z1 z2 z3 (.slice a (m + 1) ca) (.slice (some ⟨g2, 0, none⟩) (kf + 1) c2) (.slice (some ⟨g3, 0, none⟩) n c3) sta res cod)) W' := by
  have e1 : ((kf : Int) + 1 - 1).toNat = kf := by omega
  have e2 : ((m : Int)).toNat = m := by omega
  refine ⟨_, _, _, rfl, ⟨?_, ?_, ?_⟩, hb⟩
  · simp only [thTo, e2]
    rw [show (st.take m ++ [wInt c]).length = m + 1 by simp; omega, show wdL (st.take m ++ [wInt c]) = wdL (st.take m) ++ [.int .u64 (wInt c)] by simp]
    exact rdAt.of_owns own fun g hg h => by have := (far g hg).1; omega
  · simp only [thTo, e1, popFr]
    rw [show ((fr.set kf (pcF (fr.getD kf frN) PC)).take (kf + 1)).length = kf + 1 by simp; omega]
    refine rd_row o2 (by omega) fun j u hj => ?_
    rw [frL_take, ← frL_set fr kf PC hk] at hj
    rw [List.getElem?_take] at hj
    split at hj
    · exact hj
    · cases hj
  · simp only [thTo]
    rw [show hd.dropLast.length = n by simp; omega]
    refine rd_row o3 (by omega) fun j u hj => ?_
    rw [List.dropLast_eq_take, hdL_take, List.getElem?_take] at hj
    split at hj
    · exact hj
    · cases hj


set_option maxHeartbeats 4000000 in
theorem throw_good {S : Nat → Prop} {w : World} {s f h : Value} {z0 z1 z2 z3 : Int} {st : List Int} {fr : List PFr} {hd : List PHd} {sta res cod : Int} {c : Int} (k : maAt S w s f h ⟨z0, z1, z2, z3, st, fr, hd, sta, res, cod⟩) (hF : maF ⟨z0, z1, z2, z3, st, fr, hd, sta, res, cod⟩) {n kf m : Nat} {PC : Int} (hn : hd.length = n + 1) (hg : hd[n]? = some ((kf : Int) + 1, (m : Int), PC)) (hk : kf < fr.length) (hm : m ≤ st.length) :
    Calls Tryz.prog 20 #[maV z0 z1 z2 z3 s f h sta res cod, .int .i64 c] w (ThPost w (thTo ⟨z0, z1, z2, z3, st, fr, hd, sta, res, cod⟩ ((kf : Int) + 1, (m : Int), PC) c)) := by
  have HA := Lib.hid (show inF ((kf : Int) + 1) 1 fr.length = true from inF_iff.2 (by omega))
  have HB := Lib.hid (show inF (m : Int) 0 st.length = true from inF_iff.2 (by omega))
  have HK := Lib.hid hk
  have HM := Lib.hid hm
  clear hk hm
  have HG := Lib.hid hg
  have HN := Lib.hid hn
  clear hg hn
  obtain ⟨k1, k2, k3⟩ := k
  obtain ⟨a1, c1, rfl⟩ := k1.slice
  obtain ⟨a2, c2, rfl⟩ := k2.slice
  obtain ⟨a3, c3, rfl⟩ := k3.slice
  obtain ⟨W, hW⟩ : ∃ W, (w.alloc (.cells #[.int .i64 z0, .int .i64 z1, .int .i64 z2, .int .i64 z3, .slice a1 st.length c1, .slice a2 fr.length c2, .slice a3 hd.length c3, .int .i64 sta, .int .u64 res, .int .i64 cod] 45)).alloc (.cells #[.int .i64 0, .int .i64 0, .int .i64 0, .int .i64 0, .slice none 0 0, .slice none 0 0, .slice none 0 0, .int .i64 0, .int .u64 0, .int .i64 0] 45) = W := ⟨_, rfl⟩
  have BW := Lib.hid (show Below w.heap.size w W by rw [← hW]; exact down_alloc (down_alloc (Below.refl _ _) _) _)
  have r1 := rowAt.made w 45 [.int .i64 z0, .int .i64 z1, .int .i64 z2, .int .i64 z3, .slice a1 st.length c1, .slice a2 fr.length c2, .slice a3 hd.length c3, .int .i64 sta, .int .u64 res, .int .i64 cod]
  have r2 := rowAt.made_at (w := w.alloc (.cells #[.int .i64 z0, .int .i64 z1, .int .i64 z2, .int .i64 z3, .slice a1 st.length c1, .slice a2 fr.length c2, .slice a3 hd.length c3, .int .i64 sta, .int .u64 res, .int .i64 cod] 45)) (b := w.heap.size + 1) 45 [.int .i64 0, .int .i64 0, .int .i64 0, .int .i64 0, .slice none 0 0, .slice none 0 0, .slice none 0 0, .int .i64 0, .int .u64 0, .int .i64 0] (by simp)
  have R1 := Lib.hid (show rowAt W w.heap.size 45 [.int .i64 z0, .int .i64 z1, .int .i64 z2, .int .i64 z3, .slice a1 st.length c1, .slice a2 fr.length c2, .slice a3 hd.length c3, .int .i64 sta, .int .u64 res, .int .i64 cod] by rw [← hW]; exact r1.alloc _)
  have R2 := Lib.hid (show rowAt W (w.heap.size + 1) 45 [.int .i64 0, .int .i64 0, .int .i64 0, .int .i64 0, .slice none 0 0, .slice none 0 0, .slice none 0 0, .int .i64 0, .int .u64 0, .int .i64 0] by rw [← hW]; exact r2)
  have HS := Lib.hid (show W.heap.size = w.heap.size + 2 by rw [← hW]; simp)
  have KK := Lib.hid (show maAt S W (.slice a1 st.length c1) (.slice a2 fr.length c2) (.slice a3 hd.length c3) ⟨z0, z1, z2, z3, st, fr, hd, sta, res, cod⟩ from ⟨k1.below BW.out, k2.below BW.out, k3.below BW.out⟩)
  have HF := Lib.hid hF
  obtain ⟨d0, d1, d2, d3, d4, d5, d6, d7, d8, d9⟩ := cells10 R1.out
  clear k1 k2 k3 hF r1 r2
  go_enter Tryz.func20, Tryz.ntmps20
  go_wp2_with fail
  refine (own_any (M := ⟨z0, z1, z2, z3, st, fr, hd, sta, res, cod⟩) KK.out HF.out).mono ?_
  rintro e w1 ⟨g1, g2, g3, rfl, ho⟩
  simp only
  have HO := Lib.hid ho
  have x1 := R1.out.below ho.2.2.2.2.2.2.2.2.2 R1.out.lt
  obtain ⟨d0, d1, d2, d3, d4, d5, d6, d7, d8, d9⟩ := cells10 x1
  obtain ⟨p0, p1, p2, p3, p4, p5, p6, p7, p8, p9⟩ := frees10 x1
  have xl := x1.lt
  obtain ⟨W2, hW2⟩ : ∃ W2, (((((((((w1.setCell ⟨w.heap.size, 0, none⟩ (.int .i64 z0)).setCell ⟨w.heap.size, 1, none⟩ (.int .i64 z1)).setCell ⟨w.heap.size, 2, none⟩ (.int .i64 z2)).setCell ⟨w.heap.size, 3, none⟩ (.int .i64 z3)).setCell ⟨w.heap.size, 4, none⟩ (.slice (some ⟨g1, 0, none⟩) st.length st.length)).setCell ⟨w.heap.size, 5, none⟩ (.slice (some ⟨g2, 0, none⟩) fr.length fr.length)).setCell ⟨w.heap.size, 6, none⟩ (.slice (some ⟨g3, 0, none⟩) hd.length hd.length)).setCell ⟨w.heap.size, 7, none⟩ (.int .i64 sta)).setCell ⟨w.heap.size, 8, none⟩ (.int .u64 res)).setCell ⟨w.heap.size, 9, none⟩ (.int .i64 cod) = W2 := ⟨_, rfl⟩
  have I := Lib.hid (show ThIn w W2 z0 z1 z2 z3 st fr hd sta res cod g1 g2 g3 by rw [← hW2]; exact ThIn.of_own HS.out R1.out R2.out BW.out HO.out)
  obtain ⟨e0, e1, e2, e3, e4, e5, e6, e7, e8, e9⟩ := cells10 I.out.r1
  obtain ⟨q0, q1, q2, q3, q4, q5, q6, q7, q8, q9⟩ := frees10 I.out.r1
  obtain ⟨f0, f1, f2, f3, f4, f5, f6, f7, f8, f9⟩ := cells10 I.out.r2
  obtain ⟨u0, u1, u2, u3, u4, u5, u6, u7, u8, u9⟩ := frees10 I.out.r2
  have il := I.out.r1.lt
  have il2 := I.out.r2.lt
  clear ho x1
  have t0 : (((hd.length : Nat) : Int) == 0) = false := by rw [beq_eq_false_iff_ne]; have := HN.out; omega
  have t1 : ((hd.length : Nat) : Int) - 1 = (n : Int) := by have := HN.out; omega
  have t2 : n < hd.length := by have := HN.out; omega
  have t3 : wrap64 (n : Int) = n := by have h1 : hd.length ≤ 100000 := HF.out.n3; have := HN.out; unfold wrap64; omega
  obtain ⟨h0, h1, h2⟩ := hdL_get hd n _ HG.out
  have j0 : W2.cell? ⟨g3, n * 3, none⟩ = some (.int .i64 ((kf : Int) + 1)) := (I.out.o3.cell _).trans h0
  have j1 : W2.cell? ⟨g3, n * 3 + 1, none⟩ = some (.int .i64 (m : Int)) := (I.out.o3.cell _).trans h1
  have j2 : W2.cell? ⟨g3, n * 3 + 2, none⟩ = some (.int .i64 PC) := (I.out.o3.cell _).trans h2
  clear h0 h1 h2
  obtain ⟨W3, hW3⟩ : ∃ W3, W2.alloc (.cells #[.int .i64 ((kf : Int) + 1), .int .i64 (m : Int), .int .i64 PC] 63) = W3 := ⟨_, rfl⟩
  have RH := Lib.hid (show rowAt W3 W2.heap.size 63 [.int .i64 ((kf : Int) + 1), .int .i64 (m : Int), .int .i64 PC] by rw [← hW3]; exact rowAt.made _ _ _)
  have I3 := Lib.hid (show ThIn w W3 z0 z1 z2 z3 st fr hd sta res cod g1 g2 g3 from I.out.more (by rw [← hW3]; exact down_alloc (Below.refl _ _) _))
  have HZ := Lib.hid (show w.heap.size + 1 < W2.heap.size ∧ g1 < W2.heap.size ∧ g2 < W2.heap.size ∧ g3 < W2.heap.size from ⟨I.out.r2.lt, I.out.o1.lt, I.out.o2.lt, I.out.o3.lt⟩)
  have j0' : W3.cell? ⟨W2.heap.size, 0, none⟩ = some (.int .i64 ((kf : Int) + 1)) := RH.out.cell 0
  have j1' : W3.cell? ⟨W2.heap.size, 1, none⟩ = some (.int .i64 (m : Int)) := RH.out.cell 1
  have j2' : W3.cell? ⟨W2.heap.size, 2, none⟩ = some (.int .i64 PC) := RH.out.cell 2
  obtain ⟨x0, x1, x2, x3, x4, x5, x6, x7, x8, x9⟩ := cells10 I3.out.r1
  obtain ⟨y0, y1, y2, y3, y4, y5, y6, y7, y8, y9⟩ := frees10 I3.out.r1
  obtain ⟨v0, v1, v2, v3, v4, v5, v6, v7, v8, v9⟩ := cells10 I3.out.r2
  obtain ⟨m0, m1, m2, m3, m4, m5, m6, m7, m8, m9⟩ := frees10 I3.out.r2
  have jl := I3.out.r1.lt
  have jl2 := I3.out.r2.lt
  go_wp2_with fail
  clear hW3 hW2 hW e0 e1 e2 e3 e4 e5 e6 e7 e8 e9 q0 q1 q2 q3 q4 q5 q6 q7 q8 q9 f0 f1 f2 f3 f4 f5 f6 f7 f8 f9 u0 u1 u2 u3 u4 u5 u6 u7 u8 u9 il il2 d0 d1 d2 d3 d4 d5 d6 d7 d8 d9 p0 p1 p2 p3 p4 p5 p6 p7 p8 p9 xl j0 j1 j2
  refine (within_is HA.out _).mono ?_
  rintro e w4 ⟨rfl, rfl⟩
  go_wp2_with fail
  refine (within_is HB.out _).mono ?_
  rintro e w5 ⟨rfl, rfl⟩
  have sl1 : ∀ w, (Instr.slice 40 (.slice (some ⟨g1, 0, none⟩) st.length st.length) none (some (.int .i64 (m : Int))) none).run Tryz.prog w = .ok (.slice (some ⟨g1, 0, none⟩) m st.length) w := fun w => by
    obtain ⟨i, hi, -, -, -⟩ := info_parts info_W
    exact run_slice_to_w _ _ under_W hi _ HM.out (Nat.le_refl _) w
  have HOWN : Hid ((W3.alloc (.cells #[.int .u64 (wInt c)] 43)).drew.ownsRow 0 43 1 (.slice (some ⟨g1, 0, none⟩) m st.length) m (wdL (st.take m))) := by
    have h := I3.out.o1.alloc (.cells #[.int .u64 (wInt c)] 43)
    rw [show wdL st = wdL (st.take m) ++ wdL (st.drop m) by rw [← List.map_append, List.take_append_drop]] at h
    have n1 : st.length ≤ 100000 := HF.out.n1
    have hm := HM.out
    exact Lib.hid (owns_mk h (Nat.zero_le _) (by rw [List.length_map, List.length_take]; omega) (by rw [List.length_map, List.length_map, List.length_take, List.length_drop]; omega) hm (by unfold maxLen; omega))
  have HROW : Hid (rowAt (W3.alloc (.cells #[.int .u64 (wInt c)] 43)).drew W3.heap.size 43 [.int .u64 (wInt c)]) := rowAt.made _ _ _
  have b1 := down_alloc (Below.refl W3.heap.size W3) (.cells #[.int .u64 (wInt c)] 43)
  have g4 : (W3.alloc (.cells #[.int .u64 (wInt c)] 43)).cell? ⟨w.heap.size, 4, none⟩ = some (.slice (some ⟨g1, 0, none⟩) st.length st.length) := ((I3.out.r1.alloc _).cell 4).trans rfl
  have h1' : (W3.alloc (.cells #[.int .u64 (wInt c)] 43)).cell? ⟨W2.heap.size, 1, none⟩ = some (.int .i64 (m : Int)) := ((RH.out.alloc _).cell 1).trans rfl
  have B1 := Lib.hid (show Below W3.heap.size W3 (W3.alloc (.cells #[.int .u64 (wInt c)] 43)).drew from down_drew b1)
  have hml : m + 1 ≤ 100001 := by have n1 : st.length ≤ 100000 := HF.out.n1; have := HM.out; omega
  obtain ⟨i0, hi, hz0, hz1, hz2⟩ := info_parts info_W
  have HI := Lib.hid hi
  have Z0 := Lib.hid hz0
  have Z1 := Lib.hid hz1
  have Z2 := Lib.hid hz2
  clear b1 hi hz0 hz1 hz2
  go_upto_region 11 with fail
  go_cut [55] (fun _ wx => ∃ a ca, ThC w wx z0 z1 z2 z3 st fr hd sta res cod g2 g3 W2.heap.size ((kf : Int) + 1) (m : Int) PC m c a ca)
  case first =>
    go_region_law (first
      | (refine step_append_w (by rfl) _ _ _ (by rfl) 0 43 i0 (.int .u64 0) 1 8 under_W HI.out Z0.out Z1.out Z2.out (by rfl) (by decide) (.slice (some ⟨g1, 0, none⟩) m st.length) m (wdL (st.take m)) (by rfl) HOWN.out _ 1 1 [.int .u64 (wInt c)] (by rfl) (by rfl) (src_rowF HROW.out 1) (one_w _) ?c1 ?c2 ?c3 ?_; (case c1 => simp only [maxLen]; omega); (case c2 => omega); (case c3 => exact Nat.zero_le _); intro v' w2 hown2 hgrow2 hb2; obtain ⟨a2, c2, rfl⟩ := owns_slice hown2; obtain ⟨ra, rb⟩ := ThC.of I3.out RH.out HZ.out B1.out hown2 hgrow2 hb2; have RB := Lib.hid rb; have rc : w2.cell? ⟨w.heap.size, 4, none⟩ = some (.slice (some ⟨g1, 0, none⟩) st.length st.length) := (ra.cell 4).trans rfl; have rf := ra.free 4; have rl := ra.lt; clear hown2 hgrow2 hb2 ra rb)
      | (go_simp; go_at_call 42; refine (int_any c _).mono ?_; rintro e w6 ⟨rfl, rfl⟩))
    all_goals
      go_wp2_with fail
      go_meet
      exact ⟨_, _, RB.out⟩
  case rest =>
    obtain ⟨a, ca, hc⟩ := hcut
    have C := Lib.hid hc
    have L2 := C.out.l2
    have L3 := C.out.l3
    have LH := C.out.lh
    obtain ⟨fz, hfz⟩ : ∃ u, (frL fr)[kf * 4 + 1]? = some u := ⟨_, List.getElem?_eq_getElem (by have := frL_length fr; have := HK.out; omega)⟩
    clear hc sl1 g4 h1' hml HOWN HROW B1 HI Z0 Z1 Z2 j0' j1' j2' x0 x1 x2 x3 x4 x5 x6 x7 x8 x9 y0 y1 y2 y3 y4 y5 y6 y7 y8 y9 v0 v1 v2 v3 v4 v5 v6 v7 v8 v9 m0 m1 m2 m3 m4 m5 m6 m7 m8 m9 jl jl2
    obtain ⟨W12, h12⟩ : ∃ W12, wc.setCell ⟨w.heap.size, 5, none⟩ (.slice (some ⟨g2, 0, none⟩) (kf + 1) fr.length) = W12 := ⟨_, rfl⟩
    have R12 := Lib.hid (show rowAt W12 w.heap.size 45 [.int .i64 z0, .int .i64 z1, .int .i64 z2, .int .i64 z3, .slice a (m + 1) ca, .slice (some ⟨g2, 0, none⟩) (kf + 1) fr.length, .slice (some ⟨g3, 0, none⟩) hd.length hd.length, .int .i64 sta, .int .u64 res, .int .i64 cod] by rw [← h12]; exact C.out.r1.set 5 _)
    have O12 := Lib.hid (show rowAt W12 g2 65 (frL fr) by rw [← h12]; exact C.out.o2.other _ _ (by simp; omega))
    have H12 := Lib.hid (show rowAt W12 W2.heap.size 63 [.int .i64 ((kf : Int) + 1), .int .i64 (m : Int), .int .i64 PC] by rw [← h12]; exact C.out.rh.other _ _ (by simp; omega))
    have U12 := Lib.hid (show Upon (fun k => k = w.heap.size ∨ k = g2 ∨ k = w.heap.size + 1) wc W12 by rw [← h12]; exact Upon.setCell _ _ (by simp))
    obtain ⟨W13, h13⟩ : ∃ W13, W12.setCell ⟨g2, kf * 4 + 1, none⟩ (.int .i64 PC) = W13 := ⟨_, rfl⟩
    have R13 := Lib.hid (show rowAt W13 w.heap.size 45 [.int .i64 z0, .int .i64 z1, .int .i64 z2, .int .i64 z3, .slice a (m + 1) ca, .slice (some ⟨g2, 0, none⟩) (kf + 1) fr.length, .slice (some ⟨g3, 0, none⟩) hd.length hd.length, .int .i64 sta, .int .u64 res, .int .i64 cod] by rw [← h13]; exact R12.out.other _ _ (by simp; omega))
    have O13 := Lib.hid (show rowAt W13 g2 65 ((frL fr).set (kf * 4 + 1) (.int .i64 PC)) by rw [← h13]; exact O12.out.set _ _)
    have U13 := Lib.hid (show Upon (fun k => k = w.heap.size ∨ k = g2 ∨ k = w.heap.size + 1) wc W13 by rw [← h13]; exact U12.out.set1 (by simp) _)
    obtain ⟨W14, h14⟩ : ∃ W14, W13.setCell ⟨w.heap.size, 6, none⟩ (.slice (some ⟨g3, 0, none⟩) n hd.length) = W14 := ⟨_, rfl⟩
    have R14 := Lib.hid (show rowAt W14 w.heap.size 45 [.int .i64 z0, .int .i64 z1, .int .i64 z2, .int .i64 z3, .slice a (m + 1) ca, .slice (some ⟨g2, 0, none⟩) (kf + 1) fr.length, .slice (some ⟨g3, 0, none⟩) n hd.length, .int .i64 sta, .int .u64 res, .int .i64 cod] by rw [← h14]; exact R13.out.set 6 _)
    have O14 := Lib.hid (show rowAt W14 g2 65 ((frL fr).set (kf * 4 + 1) (.int .i64 PC)) by rw [← h14]; exact O13.out.other _ _ (by simp; omega))
    have U14 := Lib.hid (show Upon (fun k => k = w.heap.size ∨ k = g2 ∨ k = w.heap.size + 1) wc W14 by rw [← h14]; exact U13.out.set1 (by simp) _)
    have Z14 := Lib.hid (show rowAt W14 (w.heap.size + 1) 45 [.int .i64 0, .int .i64 0, .int .i64 0, .int .i64 0, .slice none 0 0, .slice none 0 0, .slice none 0 0, .int .i64 0, .int .u64 0, .int .i64 0] by rw [← h14, ← h13, ← h12]; exact ((C.out.r2.other _ _ (by simp)).other _ _ (by simp; omega)).other _ _ (by simp))
    have c5 : wc.cell? ⟨w.heap.size, 5, none⟩ = some (.slice (some ⟨g2, 0, none⟩) fr.length fr.length) := (C.out.r1.cell 5).trans rfl
    have c5f := C.out.r1.free 5
    have cl := C.out.r1.lt
    have cg0 : wc.cell? ⟨W2.heap.size, 0, none⟩ = some (.int .i64 ((kf : Int) + 1)) := (C.out.rh.cell 0).trans rfl
    have dd5 : W12.cell? ⟨w.heap.size, 5, none⟩ = some (.slice (some ⟨g2, 0, none⟩) (kf + 1) fr.length) := (R12.out.cell 5).trans rfl
    have dg0 : W12.cell? ⟨W2.heap.size, 0, none⟩ = some (.int .i64 ((kf : Int) + 1)) := (H12.out.cell 0).trans rfl
    have dg2 : W12.cell? ⟨W2.heap.size, 2, none⟩ = some (.int .i64 PC) := (H12.out.cell 2).trans rfl
    have dgf : W12.cell? ⟨g2, kf * 4 + 1, none⟩ = some fz := (O12.out.cell _).trans hfz
    have dgz := O12.out.free (kf * 4 + 1)
    have dgl := O12.out.lt
    have ee6 : W13.cell? ⟨w.heap.size, 6, none⟩ = some (.slice (some ⟨g3, 0, none⟩) hd.length hd.length) := (R13.out.cell 6).trans rfl
    have ee6f := R13.out.free 6
    have el := R13.out.lt
    obtain ⟨x0, x1, x2, x3, x4, x5, x6, x7, x8, x9⟩ := cells10 R14.out
    obtain ⟨v0, v1, v2, v3, v4, v5, v6, v7, v8, v9⟩ := cells10 Z14.out
    obtain ⟨m0, m1, m2, m3, m4, m5, m6, m7, m8, m9⟩ := frees10 Z14.out
    have vl := Z14.out.lt
    have sl2 : ∀ w, (Instr.slice 41 (.slice (some ⟨g2, 0, none⟩) fr.length fr.length) none (some (.int .i64 ((kf : Int) + 1))) none).run Tryz.prog w = .ok (.slice (some ⟨g2, 0, none⟩) (kf + 1) fr.length) w := fun w => by
      obtain ⟨i, hi, -, -, -⟩ := info_parts info_F
      exact run_slice_to_w _ _ under_F hi (some ⟨g2, 0, none⟩) (k := kf + 1) (n := fr.length) (c := fr.length) (by have := HK.out; omega) (Nat.le_refl _) w
    have sl3 : ∀ w, (Instr.slice 42 (.slice (some ⟨g3, 0, none⟩) hd.length hd.length) none (some (.int .i64 (n : Int))) none).run Tryz.prog w = .ok (.slice (some ⟨g3, 0, none⟩) n hd.length) w := fun w => by
      obtain ⟨i, hi, -, -, -⟩ := info_parts info_H
      exact run_slice_to_w _ _ under_H hi _ (by have := HN.out; omega) (Nat.le_refl _) w
    have t5 : wrap64 (kf : Int) = kf := by have h1 : fr.length ≤ 100000 := HF.out.n2; have := HK.out; unfold wrap64; omega
    have t6 : kf < kf + 1 := by omega
    clear hfz
    have FIN : ∀ WF, Upon (fun k => k = w.heap.size + 1) W14 WF → ThPost w (thTo ⟨z0, z1, z2, z3, st, fr, hd, sta, res, cod⟩ ((kf : Int) + 1, (m : Int), PC) c) (.returned (maV z0 z1 z2 z3 (.slice a (m + 1) ca) (.slice (some ⟨g2, 0, none⟩) (kf + 1) fr.length) (.slice (some ⟨g3, 0, none⟩) n hd.length) sta res cod)) WF := fun WF hu => by
      have n3 := C.out.n3
      have hu2 := U14.out.trans hu (fun i _ h => Or.inr (Or.inr h))
      exact th_new (owns_upon C.out.own hu2 fun g hg h => by have := C.out.far g hg; omega) C.out.far (O14.out.upon hu (by omega)) (C.out.o3.upon hu2 (by omega)) L2 L3 HN.out HK.out HM.out (C.out.hb.trans (hu2.belowB C.out.hb.size fun k hk => by omega))
    have FN := Lib.hid FIN
    clear FIN
    go_wp2_with fail
    refine bodyPost_ret (v := maV z0 z1 z2 z3 (.slice a (m + 1) ca) (.slice (some ⟨g2, 0, none⟩) (kf + 1) fr.length) (.slice (some ⟨g3, 0, none⟩) n hd.length) sta res cod) (by simp [results, Tryz.results20, go_sem, v0, v1, v2, v3, v4, v5, v6, v7, v8, v9]) rfl (FN.out _ ?_)
    iterate 10 refine Upon.set1 ?_ (by rfl) _
    exact Upon.refl _ _


theorem throw_any {S : Nat → Prop} {w : World} {s f h : Value} (M : PMa) (c : Int) (k : maAt S w s f h M) (hF : maF M) :
    Calls Tryz.prog 20 #[maV M.z0 M.z1 M.z2 M.z3 s f h M.state M.res M.code, .int .i64 c] w (ThPost w (throwP M c)) := by
  obtain ⟨z0, z1, z2, z3, st, fr, hd, sta, res, cod⟩ := M
  rcases Nat.eq_zero_or_pos hd.length with h0 | h0
  · have e : throwP ⟨z0, z1, z2, z3, st, fr, hd, sta, res, cod⟩ c = thNone ⟨z0, z1, z2, z3, st, fr, hd, sta, res, cod⟩ c := by
      obtain rfl := List.length_eq_zero_iff.1 h0
      rfl
    rw [e]
    exact throw_none k hF h0
  · obtain ⟨n, hn⟩ : ∃ n, hd.length = n + 1 := ⟨hd.length - 1, by omega⟩
    obtain ⟨⟨F, H, PC⟩, hg⟩ : ∃ x, hd[n]? = some x := ⟨_, List.getElem?_eq_getElem (by omega)⟩
    have e : throwP ⟨z0, z1, z2, z3, st, fr, hd, sta, res, cod⟩ c = if thOk ⟨z0, z1, z2, z3, st, fr, hd, sta, res, cod⟩ (F, H, PC) = true then thTo ⟨z0, z1, z2, z3, st, fr, hd, sta, res, cod⟩ (F, H, PC) c else { (⟨z0, z1, z2, z3, st, fr, hd, sta, res, cod⟩ : PMa) with state := 7 } := by
      unfold throwP
      simp only [List.getLast?_eq_getElem?, hn, Nat.add_sub_cancel, hg]
    rw [e]
    cases h1 : inF F 1 fr.length
    · rw [if_neg (by simp [thOk, h1])]
      exact throw_bad1 k hF hn hg h1
    · cases h2 : inF H 0 st.length
      · rw [if_neg (by simp [thOk, h2])]
        exact throw_bad2 k hF hn hg h1 h2
      · rw [if_pos (by simp [thOk, h1, h2])]
        obtain ⟨kf, rfl⟩ : ∃ kf : Nat, F = (kf : Int) + 1 := ⟨(F - 1).toNat, by have := inF_iff.1 h1; omega⟩
        obtain ⟨m, rfl⟩ : ∃ m : Nat, H = (m : Int) := ⟨H.toNat, by have := inF_iff.1 h2; omega⟩
        exact throw_good k hF hn hg (by have := inF_iff.1 h1; omega) (by have := inF_iff.1 h2; omega)

end Go.Proofs.YtajkkinolpkfmaaGreatDoor

/-
  Package frame: Roots, the words of a machine that may point into its heap.
  Conditions: as each states.
-/
namespace Go.Proofs.YtajkkinolpkfmaaGreatDoor
set_option linter.unusedVariables false
set_option linter.unusedSimpArgs false
open Go.ChangeShapes Go.WideShapes Go.ChangeAt Go.RowKit
set_option maxRecDepth 100000

def selfs (l : List PFr) : List Int := l.map fun f => f.2.2.2
def rootsP (M : PMa) : List Int := M.st ++ selfs M.fr ++ [M.res]
def RtPost (w : World) (l : List Int) (e : Ending) (w' : World) : Prop :=
  ∃ v, e = .returned v ∧ w'.ownsRow w.heap.size 43 1 v l.length (wdL l) ∧ Below w.heap.size w w'
theorem frL_get : ∀ (l : List PFr) (k : Nat) (f : PFr), l[k]? = some f → (frL l)[k * 4]? = some (.int .i64 f.1) ∧ (frL l)[k * 4 + 1]? = some (.int .i64 f.2.1) ∧ (frL l)[k * 4 + 2]? = some (.int .i64 f.2.2.1) ∧ (frL l)[k * 4 + 3]? = some (.int .u64 f.2.2.2)
  | [], k, _, h => by simp at h
  | x :: l, 0, h, e => by simp at e; subst e; simp [frL, frC]
  | x :: l, k + 1, h, e => by
    have ih := frL_get l k h (by simpa using e)
    rw [show (k + 1) * 4 = k * 4 + 1 + 1 + 1 + 1 by omega]
    simpa [frL, frC] using ih
theorem owns_below1 {w w' : World} {B n : Nat} {T : TypeId} {v : Value} {xs : List Value} (h : w.ownsRow B T 1 v n xs) (hb : Below w.heap.size w w') : w'.ownsRow B T 1 v n xs := owns_upon h (Upon.of_below hb) fun _ _ t => t
/-- Where Roots stands: so many frames are told. -/
structure RtIn (w W : World) (src : List Value) (l : List Int) (a : Option Addr) (c : Nat) : Prop where
  row : rowAt W w.heap.size 45 src
  own : W.ownsRow (w.heap.size + 1) 43 1 (.slice a l.length c) l.length (wdL l)
  hb : Below w.heap.size w W
theorem RtIn.push {w W X w2 : World} {src : List Value} {l : List Int} {a a2 : Option Addr} {c c2 : Nat} {x : Int} {n : Nat} (h : RtIn w W src l a c) (hX : Below W.heap.size W X) (ho : w2.ownsRow (w.heap.size + 1) 43 1 (.slice a2 n c2) n (wdL l ++ [.int .u64 x])) (hn : n = (l ++ [x]).length) (hg : X.grownBy w2 (Value.slice a l.length c).ownBlock) :
    RtIn w w2 src (l ++ [x]) a2 c2 := by
  subst hn
  have fr : ∀ g, (Value.slice a l.length c).ownBlock = some g → w.heap.size + 1 ≤ g := fun g hg => (own_ge h.own g hg).1
  have hu : Upon (fun k => w.heap.size + 1 ≤ k) W w2 := (Upon.of_below hX).trans (Upon.grown (S := fun k => w.heap.size + 1 ≤ k) hg (fun k hk => fr k hk)) (fun i hi h => h)
  exact ⟨h.row.upon hu (by omega), by simpa using ho, h.hb.trans (hu.belowB h.hb.size fun k hk => by omega)⟩

theorem rt_end {w W : World} {src : List Value} {l : List Int} {x : Int} {a : Option Addr} {c : Nat} (h : RtIn w W src (l ++ [x]) a c) : RtPost w (l ++ [x]) (.returned (.slice a (l.length + 1) c)) W := by
  have e : (l ++ [x]).length = l.length + 1 := by simp
  have o := h.own
  rw [e] at o
  refine ⟨_, rfl, ?_, h.hb⟩
  rw [e]
  exact ⟨o.1, o.2.imp id fun ⟨g, cap, cur, h1, h2, h3⟩ => ⟨g, cap, cur, h1, by omega, h3⟩⟩
set_option maxHeartbeats 4000000 in
theorem roots_any {S : Nat → Prop} {w : World} {s f h : Value} (M : PMa) (k : maAt S w s f h M) (hF : maF M) :
    Calls Tryz.prog 13 #[maV M.z0 M.z1 M.z2 M.z3 s f h M.state M.res M.code] w (RtPost w (rootsP M)) := by
  obtain ⟨z0, z1, z2, z3, st, fr, hd, sta, res, cod⟩ := M
  obtain ⟨k1, k2, k3⟩ := k
  obtain ⟨a1, c1, rfl⟩ := k1.slice
  obtain ⟨a2, c2, rfl⟩ := k2.slice
  obtain ⟨a3, c3, rfl⟩ := k3.slice
  have n1 : st.length ≤ 100000 := hF.n1
  have n2 : fr.length ≤ 100000 := hF.n2
  obtain ⟨W, hW⟩ : ∃ W, w.alloc (.cells #[.int .i64 z0, .int .i64 z1, .int .i64 z2, .int .i64 z3, .slice a1 st.length c1, .slice a2 fr.length c2, .slice a3 hd.length c3, .int .i64 sta, .int .u64 res, .int .i64 cod] 45) = W := ⟨_, rfl⟩
  have BW := Lib.hid (show Below w.heap.size w W by rw [← hW]; exact down_alloc (Below.refl _ _) _)
  have R1 := Lib.hid (show rowAt W w.heap.size 45 [.int .i64 z0, .int .i64 z1, .int .i64 z2, .int .i64 z3, .slice a1 st.length c1, .slice a2 fr.length c2, .slice a3 hd.length c3, .int .i64 sta, .int .u64 res, .int .i64 cod] by rw [← hW]; exact rowAt.made _ _ _)
  have HS := Lib.hid (show W.heap.size = w.heap.size + 1 by rw [← hW]; simp)
  have K1 := Lib.hid (k1.below BW.out)
  have K2 := Lib.hid k2
  have N1 := Lib.hid n1
  have N2 := Lib.hid n2
  obtain ⟨i0, hi, hz0, hz1, hz2⟩ := info_parts info_W
  have HI := Lib.hid hi
  have Z0 := Lib.hid hz0
  have Z1 := Lib.hid hz1
  have Z2 := Lib.hid hz2
  obtain ⟨d0, d1, d2, d3, d4, d5, d6, d7, d8, d9⟩ := cells10 R1.out
  clear k1 k2 k3 hF hi hz0 hz1 hz2 n1 n2
  go_enter Tryz.func13, Tryz.ntmps13
  go_wp2_with fail
  refine (copied_W K1.out (wdL_length _) wdL_one N1.out).mono ?_
  rintro e w1 ⟨rfl, q1, b1⟩
  have I1 : RtIn w w1 [.int .i64 z0, .int .i64 z1, .int .i64 z2, .int .i64 z3, .slice a1 st.length c1, .slice a2 fr.length c2, .slice a3 hd.length c3, .int .i64 sta, .int .u64 res, .int .i64 cod] st (some ⟨W.heap.size, 0, none⟩) st.length := ⟨R1.out.below b1 R1.out.lt, owns_mk (rest := []) (by rw [List.append_nil]; exact q1) (by have := HS.out; omega) (by simp) (by simp) (Nat.le_refl _) (by have := N1.out; unfold maxLen; omega), down_call BW.out b1⟩
  have J1 := Lib.hid I1
  obtain ⟨e0, e1, e2, e3, e4, e5, e6, e7, e8, e9⟩ := cells10 I1.row
  clear hW q1 b1 I1 d0 d1 d2 d3 d4 d5 d6 d7 d8 d9
  go_wp2_with fail
  go_loopw [3, 12] (fun r i wr => ∃ (k : Nat) (a : Option Addr) (c : Nat), k ≤ fr.length ∧ i = .int .i64 k ∧ r = .slice a (st ++ selfs (fr.take k)).length c ∧ Hid (RtIn w wr [.int .i64 z0, .int .i64 z1, .int .i64 z2, .int .i64 z3, .slice a1 st.length c1, .slice a2 fr.length c2, .slice a3 hd.length c3, .int .i64 sta, .int .u64 res, .int .i64 cod] (st ++ selfs (fr.take k)) a c)) (fun _ i _ => fr.length - (intOf i).toNat)
  case atStart => exact ⟨0, some ⟨W.heap.size, 0, none⟩, st.length, Nat.zero_le _, rfl, by simp [selfs], by simpa [selfs] using J1⟩
  case round =>
    obtain ⟨k, a, c, hk, rfl, rfl, HR⟩ := hrel
    by_cases hlt : k < fr.length
    · have hfr := Lib.hid (List.getElem?_eq_getElem hlt)
      generalize fr[k] = x at *
      have hk2 := K2.out.below HR.out.hb
      obtain ⟨a', c', e, h⟩ := hk2
      cases e
      rcases h with h | ⟨b, o, rfl, -, hbl, hc⟩
      · exact absurd h (by omega)
      obtain ⟨g0, g1, g2, g3⟩ := frL_get fr k x hfr.out
      have y0 : wr.cell? ⟨b, o + k * 4, none⟩ = some (.int .i64 x.1) := hc _ _ g0
      have y1 : wr.cell? ⟨b, o + k * 4 + 1, none⟩ = some (.int .i64 x.2.1) := by have := hc _ _ g1; rwa [← Nat.add_assoc] at this
      have y2 : wr.cell? ⟨b, o + k * 4 + 2, none⟩ = some (.int .i64 x.2.2.1) := by have := hc _ _ g2; rwa [← Nat.add_assoc] at this
      have y3 : wr.cell? ⟨b, o + k * 4 + 3, none⟩ = some (.int .u64 x.2.2.2) := by have := hc _ _ g3; rwa [← Nat.add_assoc] at this
      have ex := Lib.hid (show selfs (fr.take (k + 1)) = selfs (fr.take k) ++ [x.2.2.2] by rw [List.take_add_one, hfr.out]; simp [selfs])
      generalize hsl : st ++ selfs (fr.take k) = l at *
      have HL := Lib.hid (show l.length ≤ 200000 by rw [← hsl]; have h1 := N1.out; have h2 := N2.out; simp [selfs]; omega)
      have EX := Lib.hid (show st ++ selfs (fr.take (k + 1)) = l ++ [x.2.2.2] by rw [ex.out, ← List.append_assoc, hsl])
      obtain ⟨X1, hX1⟩ : ∃ X, wr.alloc (.cells #[.int .i64 x.1, .int .i64 x.2.1, .int .i64 x.2.2.1, .int .u64 x.2.2.2] 65) = X := ⟨_, rfl⟩
      have BX1 := Lib.hid (show Below wr.heap.size wr X1 by rw [← hX1]; exact down_alloc (Below.refl _ _) _)
      have f3 : X1.cell? ⟨wr.heap.size, 3, none⟩ = some (.int .u64 x.2.2.2) := ((show rowAt X1 wr.heap.size 65 [.int .i64 x.1, .int .i64 x.2.1, .int .i64 x.2.2.1, .int .u64 x.2.2.2] by rw [← hX1]; exact rowAt.made _ _ _).cell 3).trans rfl
      have BX := Lib.hid (show Below wr.heap.size wr (X1.alloc (.cells #[.int .u64 x.2.2.2] 43)) from down_alloc BX1.out _)
      have OW := Lib.hid (owns_below1 HR.out.own BX.out)
      have HROW := Lib.hid (show rowAt (X1.alloc (.cells #[.int .u64 x.2.2.2] 43)) X1.heap.size 43 [.int .u64 x.2.2.2] from rowAt.made _ _ _)
      have BSZ := Lib.hid (show w.heap.size + 1 ≤ (X1.alloc (.cells #[.int .u64 x.2.2.2] 43)).heap.size from Nat.le_trans HR.out.row.lt BX.out.size)
      have hl := HL.out
      have n2 : fr.length ≤ 100000 := N2.out
      clear hc g0 g1 g2 g3 hsl hbl ex
      go_wp2_with (at_builtin; (refine wpList_append_w (by rfl) _ _ _ (by rfl) (w.heap.size + 1) 43 i0 (.int .u64 0) 1 8 under_W HI.out Z0.out Z1.out Z2.out (by rfl) (by decide) (.slice a l.length c) (l.length) (wdL (l)) (by rfl) OW.out (some ⟨X1.heap.size, 0, none⟩) 1 1 [.int .u64 x.2.2.2] (by rfl) (by rfl) (src_rowF HROW.out 1) (one_w _) ?c1 ?c2 ?c3 ?_; (case c1 => simp only [maxLen]; omega); (case c2 => omega); (case c3 => exact BSZ.out); intro v' w2 hown2 hgrow2 hb2; obtain ⟨a2, c2, rfl⟩ := owns_slice hown2; have OW2 := Lib.hid hown2; have HG2 := Lib.hid hgrow2; clear hown2 hgrow2 hb2))
      go_roundw
      case rel =>
        have PX := HR.out.push BX.out OW2.out (by simp) HG2.out
        have PY := Lib.hid PX
        rw [← EX.out] at PY
        have hlt2 : k + 1 ≤ fr.length := hlt
        exact ⟨k + 1, a2, c2, hlt2, by go_num, by rw [EX.out]; simp, PY⟩
      case measure => simp [intOf]; omega
    · obtain rfl : k = fr.length := by omega
      rw [List.take_length] at HR ⊢
      obtain ⟨d0, d1, d2, d3, d4, d5, d6, d7, d8, d9⟩ := cells10 HR.out.row
      have EX := Lib.hid (show rootsP ⟨z0, z1, z2, z3, st, fr, hd, sta, res, cod⟩ = (st ++ selfs fr) ++ [res] from rfl)
      have HL := Lib.hid (show (st ++ selfs fr).length ≤ 200000 by have h1 := N1.out; have h2 := N2.out; simp [selfs]; omega)
      generalize st ++ selfs fr = l at *
      have BX := Lib.hid (show Below wr.heap.size wr (wr.alloc (.cells #[.int .u64 res] 43)) from down_alloc (Below.refl _ _) _)
      have OW := Lib.hid (owns_below1 HR.out.own BX.out)
      have HROW := Lib.hid (show rowAt (wr.alloc (.cells #[.int .u64 res] 43)) wr.heap.size 43 [.int .u64 res] from rowAt.made _ _ _)
      have BSZ := Lib.hid (show w.heap.size + 1 ≤ (wr.alloc (.cells #[.int .u64 res] 43)).heap.size from Nat.le_trans HR.out.row.lt BX.out.size)
      have hl := HL.out
      go_wp2_with (at_builtin; (refine wpList_append_w (by rfl) _ _ _ (by rfl) (w.heap.size + 1) 43 i0 (.int .u64 0) 1 8 under_W HI.out Z0.out Z1.out Z2.out (by rfl) (by decide) (.slice a l.length c) (l.length) (wdL (l)) (by rfl) OW.out (some ⟨wr.heap.size, 0, none⟩) 1 1 [.int .u64 res] (by rfl) (by rfl) (src_rowF HROW.out 1) (one_w _) ?c1 ?c2 ?c3 ?_; (case c1 => simp only [maxLen]; omega); (case c2 => omega); (case c3 => exact BSZ.out); intro v' w2 hown2 hgrow2 hb2; obtain ⟨a2, c2, rfl⟩ := owns_slice hown2; have OW2 := Lib.hid hown2; have HG2 := Lib.hid hgrow2; clear hown2 hgrow2 hb2))
      go_ret
      rw [EX.out]
      exact rt_end (HR.out.push BX.out OW2.out (by simp) HG2.out)
end Go.Proofs.YtajkkinolpkfmaaGreatDoor

/-
  Package frame: whether a machine's counts, a PC, a machine's State may be.
  Conditions: as each states.
-/
namespace Go.Proofs.YtajkkinolpkfmaaGreatDoor
set_option linter.unusedVariables false
set_option linter.unusedSimpArgs false
open Go.ChangeShapes Go.WideShapes Go.ChangeAt Go.RowKit
set_option maxRecDepth 100000

def cntG (M : PMa) : Bool := decide (M.st.length ≤ 200) && (decide (M.fr.length ≤ 60) && decide (M.hd.length ≤ 30))
theorem goodCounts_is {S : Nat → Prop} {w : World} {s f h : Value} {M : PMa} {b : Bool} (hb : cntG M = b) (k : maAt S w s f h M) :
    Calls Tryz.prog 46 #[maV M.z0 M.z1 M.z2 M.z3 s f h M.state M.res M.code] w fun e w' => e = .returned (.bool b) ∧ Below w.heap.size w w' := by
  obtain ⟨z0, z1, z2, z3, st, fr, hd, sta, res, cod⟩ := M
  obtain ⟨a1, c1, rfl⟩ := k.1.slice
  obtain ⟨a2, c2, rfl⟩ := k.2.1.slice
  obtain ⟨a3, c3, rfl⟩ := k.2.2.slice
  clear k
  have b0 : ∀ o, Hid (Below w.heap.size w (w.alloc o)) := fun o => Lib.hid (down_alloc (Below.refl _ _) _)
  simp only [cntG] at hb ⊢
  by_cases h1 : st.length ≤ 200
  · by_cases h2 : fr.length ≤ 60
    · by_cases h3 : hd.length ≤ 30
      · obtain rfl : b = true := by rw [← hb]; simp [h1, h2, h3]
        have t3 := Lib.hid (show decide ((hd.length : Int) ≤ 30) = true from decide_eq_true (by omega))
        clear hb
        go_enter Tryz.func46, Tryz.ntmps46
        go_wp2_with fail
        go_ret
        exact ⟨ret_bool t3.out, (b0 _).out⟩
      · obtain rfl : b = false := by rw [← hb]; simp [h3]
        have t3 := Lib.hid (show decide ((hd.length : Int) ≤ 30) = false from decide_eq_false (by omega))
        clear hb
        go_enter Tryz.func46, Tryz.ntmps46
        go_wp2_with fail
        go_ret
        exact ⟨ret_bool t3.out, (b0 _).out⟩
    · obtain rfl : b = false := by rw [← hb]; simp [h2]
      clear hb
      go_enter Tryz.func46, Tryz.ntmps46
      go_wp2_with fail
      go_ret
      exact ⟨rfl, (b0 _).out⟩
  · obtain rfl : b = false := by rw [← hb]; simp [h1]
    clear hb
    go_enter Tryz.func46, Tryz.ntmps46
    go_wp2_with fail
    go_ret
    exact ⟨rfl, (b0 _).out⟩

theorem goodPC_is {w : World} {pc x y : Int} {a : Option Addr} {n c : Nat} {b : Bool} (hb : inF pc 0 ((n : Int) - 1) = b) (hn : n ≤ 9000000) :
    Calls Tryz.prog 78 #[.int .i64 pc, .agg #[.int .i64 x, .int .i64 y, .slice a n c]] w fun e w' => e = .returned (.bool b) ∧ Below w.heap.size w w' := by
  have HB := Lib.hid hb
  have t1 : wrap64 ((n : Int) - 1) = (n : Int) - 1 := by unfold wrap64; omega
  have b0 : ∀ o, Hid (Below w.heap.size w (w.alloc o)) := fun o => Lib.hid (down_alloc (Below.refl _ _) _)
  clear hb hn
  go_enter Tryz.func78, Tryz.ntmps78
  go_wp2_with fail
  refine (within_is HB.out _).mono ?_
  rintro e w' ⟨rfl, rfl⟩
  go_wp2_with fail
  go_ret
  exact ⟨rfl, (b0 _).out⟩
end Go.Proofs.YtajkkinolpkfmaaGreatDoor
