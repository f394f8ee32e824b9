/-
  Package frame: WithRoots, a machine with other words in the place of its roots.
  Conditions: as each states.
-/
import Derived.Test.YtajkkinolpkfmaaGreatDoorYGa
namespace Go.Proofs.YtajkkinolpkfmaaGreatDoor
set_option linter.unusedVariables false
set_option linter.unusedSimpArgs false
open Go.ChangeShapes Go.WideShapes Go.ChangeAt Go.RowKit
set_option maxRecDepth 100000

/-- The frames with these words as their Selfs. -/
def setS : List PFr → List Int → List PFr
  | [], _ => []
  | l, [] => l
  | f :: l, x :: r => (f.1, f.2.1, f.2.2.1, x) :: setS l r
theorem setS_nil (l : List PFr) : setS l [] = l := by cases l <;> rfl
theorem setS_length : ∀ (l : List PFr) (xs : List Int), (setS l xs).length = l.length
  | [], _ => rfl
  | _ :: _, [] => rfl
  | f :: l, x :: r => by simp [setS, setS_length l r]
theorem setS_snoc : ∀ (l : List PFr) (xs : List Int) (x : Int), xs.length < l.length → frL (setS l (xs ++ [x])) = (frL (setS l xs)).set (xs.length * 4 + 3) (.int .u64 x)
  | [], xs, _, h => by simp at h
  | f :: l, [], x, _ => by simp [setS, setS_nil, frL, frC]
  | f :: l, y :: r, x, h => by
    have ih := setS_snoc l r x (by simpa using h)
    rw [show (y :: r).length * 4 + 3 = r.length * 4 + 3 + 1 + 1 + 1 + 1 by simp; omega]
    simpa [setS, frL, frC] using ih
def withP (M : PMa) (y0 y1 y2 y3 : Int) (rs : List Int) : PMa :=
  { M with z0 := y0, z1 := y1, z2 := y2, z3 := y3, st := rs.take M.st.length, fr := setS M.fr ((rs.drop M.st.length).take M.fr.length), res := rs.getD (M.st.length + M.fr.length) 0 }
def WrPost (w : World) (M : PMa) (e : Ending) (w' : World) : Prop :=
  ∃ s f h, e = .returned (.tuple #[maV M.z0 M.z1 M.z2 M.z3 s f h M.state M.res M.code, .bool true]) ∧ maAt (fun k => k < w.heap.size) w' s f h M ∧ Below w.heap.size w w'
def WrNo (w : World) (e : Ending) (w' : World) : Prop :=
  e = .returned (.tuple #[maV 0 0 0 0 (.slice none 0 0) (.slice none 0 0) (.slice none 0 0) 0 0 0, .bool false]) ∧ Below w.heap.size w w'

set_option maxHeartbeats 1000000 in
theorem with_no {S S' : Nat → Prop} {w : World} {s f h : Value} {z0 z1 z2 z3 : Int} {st : List Int} {fr : List PFr} {hd : List PHd} {sta res cod : Int} {y0 y1 y2 y3 : Int} {v : Value} {rs : List Int} (k : maAt S w s f h ⟨z0, z1, z2, z3, st, fr, hd, sta, res, cod⟩) (hF : maF ⟨z0, z1, z2, z3, st, fr, hd, sta, res, cod⟩)
    (hv : rdAt S' w v rs.length (wdL rs)) (hne : rs.length ≠ st.length + fr.length + 1) :
    Calls Tryz.prog 14 #[maV z0 z1 z2 z3 s f h sta res cod, .agg #[.int .i64 y0, .int .i64 y1, .int .i64 y2, .int .i64 y3], v] w (WrNo w) := by
  obtain ⟨k1, k2, k3⟩ := k
  obtain ⟨a1, c1, rfl⟩ := k1.slice
  obtain ⟨a2, c2, rfl⟩ := k2.slice
  obtain ⟨a3, c3, rfl⟩ := k3.slice
  obtain ⟨ar, cr, rfl⟩ := hv.slice
  have n1 : st.length ≤ 100000 := hF.n1
  have n2 : fr.length ≤ 100000 := hF.n2
  have t0 : wrap64 (wrap64 (((st.length : Nat) : Int) + fr.length) + 1) = st.length + fr.length + 1 := by unfold wrap64; omega
  have t1 : ((rs.length : Int) != (st.length : Int) + fr.length + 1) = true := by simp; omega
  clear k1 k2 k3 hF hv hne
  go_enter Tryz.func14, Tryz.ntmps14
  go_wp2_with fail
  refine bodyPost_ret (v := .tuple #[maV 0 0 0 0 (.slice none 0 0) (.slice none 0 0) (.slice none 0 0) 0 0 0, .bool false]) (by simp [results, Tryz.results14, go_sem]) rfl ⟨rfl, ?_⟩
  repeat (first | refine down_alloc ?_ _ | refine down_set ?_ (by simp; done) _)
  exact Below.refl _ _

/-- Behind the copy: the machine in the box, its lists in g1, g2, g3; the heap's box; the result's block. -/
structure WrIn (w W : World) (cs ys : List Value) (sr : List Value) (fs : List Value) (hs : List Value) (g1 g2 g3 : Nat) : Prop where
  r1 : rowAt W w.heap.size 45 cs
  ry : rowAt W (w.heap.size + 1) 39 ys
  r2 : rowAt W (w.heap.size + 2) 45 [.int .i64 0, .int .i64 0, .int .i64 0, .int .i64 0, .slice none 0 0, .slice none 0 0, .slice none 0 0, .int .i64 0, .int .u64 0, .int .i64 0]
  o1 : rowAt W g1 43 sr
  o2 : rowAt W g2 65 fs
  o3 : rowAt W g3 63 hs
  l1 : w.heap.size + 2 < g1
  l2 : w.heap.size + 2 < g2
  l3 : w.heap.size + 2 < g3
  n1 : g1 ≠ g2
  n2 : g1 ≠ g3
  n3 : g2 ≠ g3
  hb : Below w.heap.size w W
theorem WrIn.of_own {w W w1 : World} {z0 z1 z2 z3 : Int} {st : List Int} {fr : List PFr} {hd : List PHd} {sta res cod : Int} {g1 g2 g3 : Nat} {s f h : Value} {ys : List Value}
    (hW : W.heap.size = w.heap.size + 3) (R1 : rowAt W w.heap.size 45 [.int .i64 z0, .int .i64 z1, .int .i64 z2, .int .i64 z3, s, f, h, .int .i64 sta, .int .u64 res, .int .i64 cod]) (RY : rowAt W (w.heap.size + 1) 39 ys) (R2 : rowAt W (w.heap.size + 2) 45 [.int .i64 0, .int .i64 0, .int .i64 0, .int .i64 0, .slice none 0 0, .slice none 0 0, .slice none 0 0, .int .i64 0, .int .u64 0, .int .i64 0]) (B : Below w.heap.size w W) (ho : OwnAt W w1 g1 g2 g3 ⟨z0, z1, z2, z3, st, fr, hd, sta, res, cod⟩) :
    WrIn w ((((((((((w1.setCell ⟨w.heap.size, 0, none⟩ (.int .i64 z0)).setCell ⟨w.heap.size, 1, none⟩ (.int .i64 z1)).setCell ⟨w.heap.size, 2, none⟩ (.int .i64 z2)).setCell ⟨w.heap.size, 3, none⟩ (.int .i64 z3)).setCell ⟨w.heap.size, 4, none⟩ (.slice (some ⟨g1, 0, none⟩) st.length st.length)).setCell ⟨w.heap.size, 5, none⟩ (.slice (some ⟨g2, 0, none⟩) fr.length fr.length)).setCell ⟨w.heap.size, 6, none⟩ (.slice (some ⟨g3, 0, none⟩) hd.length hd.length)).setCell ⟨w.heap.size, 7, none⟩ (.int .i64 sta)).setCell ⟨w.heap.size, 8, none⟩ (.int .u64 res)).setCell ⟨w.heap.size, 9, none⟩ (.int .i64 cod)) [.int .i64 z0, .int .i64 z1, .int .i64 z2, .int .i64 z3, .slice (some ⟨g1, 0, none⟩) st.length st.length, .slice (some ⟨g2, 0, none⟩) fr.length fr.length, .slice (some ⟨g3, 0, none⟩) hd.length hd.length, .int .i64 sta, .int .u64 res, .int .i64 cod] ys (wdL st) (frL fr) (hdL hd) g1 g2 g3 := by
  obtain ⟨o1, o2, o3, a1, a2, a3, e1, e2, e3, hb⟩ := ho
  simp only at o1 o2 o3
  have q1 := R1.below hb (by omega)
  have q2 := R2.below hb (by omega)
  have qy := RY.below hb (by omega)
  have hu : Upon (fun k => k = w.heap.size) w1 ((((((((((w1.setCell ⟨w.heap.size, 0, none⟩ (.int .i64 z0)).setCell ⟨w.heap.size, 1, none⟩ (.int .i64 z1)).setCell ⟨w.heap.size, 2, none⟩ (.int .i64 z2)).setCell ⟨w.heap.size, 3, none⟩ (.int .i64 z3)).setCell ⟨w.heap.size, 4, none⟩ (.slice (some ⟨g1, 0, none⟩) st.length st.length)).setCell ⟨w.heap.size, 5, none⟩ (.slice (some ⟨g2, 0, none⟩) fr.length fr.length)).setCell ⟨w.heap.size, 6, none⟩ (.slice (some ⟨g3, 0, none⟩) hd.length hd.length)).setCell ⟨w.heap.size, 7, none⟩ (.int .i64 sta)).setCell ⟨w.heap.size, 8, none⟩ (.int .u64 res)).setCell ⟨w.heap.size, 9, none⟩ (.int .i64 cod)) := by
    iterate 10 refine Upon.set1 ?_ (by rfl) _
    exact Upon.refl _ _
  refine ⟨?_, qy.upon hu (by omega), q2.upon hu (by omega), o1.upon hu (by omega), o2.upon hu (by omega), o3.upon hu (by omega), by omega, by omega, by omega, e1, e2, e3, (down_call B hb).trans (hu.belowB (down_call B hb).size fun k hk => by omega)⟩
  have q := ((((((((((q1.set 0 (.int .i64 z0)).set 1 (.int .i64 z1)).set 2 (.int .i64 z2)).set 3 (.int .i64 z3)).set 4 (.slice (some ⟨g1, 0, none⟩) st.length st.length)).set 5 (.slice (some ⟨g2, 0, none⟩) fr.length fr.length)).set 6 (.slice (some ⟨g3, 0, none⟩) hd.length hd.length)).set 7 (.int .i64 sta)).set 8 (.int .u64 res)).set 9 (.int .i64 cod))
  exact q
theorem WrIn.box {w W : World} {cs ys sr fs hs : List Value} {g1 g2 g3 : Nat} (h : WrIn w W cs ys sr fs hs g1 g2 g3) (i : Nat) (v : Value) : WrIn w (W.setCell ⟨w.heap.size, i, none⟩ v) (cs.set i v) ys sr fs hs g1 g2 g3 := by
  have k1 := h.l1
  have k2 := h.l2
  have k3 := h.l3
  exact ⟨h.r1.set i v, h.ry.other _ _ (by simp), h.r2.other _ _ (by simp), h.o1.other _ _ (by simp; omega), h.o2.other _ _ (by simp; omega), h.o3.other _ _ (by simp; omega), k1, k2, k3, h.n1, h.n2, h.n3, down_set h.hb (by simp) _⟩
theorem WrIn.stack {w W : World} {cs ys sr fs hs : List Value} {g1 g2 g3 : Nat} (h : WrIn w W cs ys sr fs hs g1 g2 g3) (xs : List Value) : WrIn w (W.setRow g1 xs.toArray) cs ys xs fs hs g1 g2 g3 := by
  have k1 := h.l1
  have k2 := h.l2
  have k3 := h.l3
  have n1 := h.n1
  have n2 := h.n2
  have hu := upon_setRowF W g1 xs.toArray
  exact ⟨h.r1.upon hu (by omega), h.ry.upon hu (by omega), h.r2.upon hu (by omega), h.o1.setRowF, h.o2.upon hu (by omega), h.o3.upon hu (by omega), k1, k2, k3, h.n1, h.n2, h.n3, h.hb.trans (hu.belowB h.hb.size fun k hk => by omega)⟩
theorem WrIn.frame {w W : World} {cs ys sr fs hs : List Value} {g1 g2 g3 : Nat} (h : WrIn w W cs ys sr fs hs g1 g2 g3) (i : Nat) (v : Value) : WrIn w (W.setCell ⟨g2, i, none⟩ v) cs ys sr (fs.set i v) hs g1 g2 g3 := by
  have k1 := h.l1
  have k2 := h.l2
  have k3 := h.l3
  have n1 := h.n1
  have n3 := h.n3
  exact ⟨h.r1.other _ _ (by simp; omega), h.ry.other _ _ (by simp; omega), h.r2.other _ _ (by simp; omega), h.o1.other _ _ (by simp; omega), h.o2.set i v, h.o3.other _ _ (by simp; omega), k1, k2, k3, h.n1, h.n2, h.n3, down_set h.hb (by simp; omega) _⟩
theorem WrIn.drew {w W : World} {cs ys sr fs hs : List Value} {g1 g2 g3 : Nat} (h : WrIn w W cs ys sr fs hs g1 g2 g3) : WrIn w W.drew cs ys sr fs hs g1 g2 g3 :=
  ⟨h.r1, h.ry, h.r2, h.o1, h.o2, h.o3, h.l1, h.l2, h.l3, h.n1, h.n2, h.n3, down_drew h.hb⟩

set_option maxHeartbeats 4000000 in
theorem with_yes {S S' : Nat → Prop} {w : World} {s f h : Value} {z0 z1 z2 z3 : Int} {st : List Int} {fr : List PFr} {hd : List PHd} {sta res cod : Int} {y0 y1 y2 y3 : Int} {ar : Option Addr} {cr : Nat} {rs : List Int} (k : maAt S w s f h ⟨z0, z1, z2, z3, st, fr, hd, sta, res, cod⟩) (hF : maF ⟨z0, z1, z2, z3, st, fr, hd, sta, res, cod⟩)
    (hv : rdAt S' w (.slice ar rs.length cr) rs.length (wdL rs)) (hcr : rs.length ≤ cr) (hne : rs.length = st.length + fr.length + 1) :
    Calls Tryz.prog 14 #[maV z0 z1 z2 z3 s f h sta res cod, .agg #[.int .i64 y0, .int .i64 y1, .int .i64 y2, .int .i64 y3], .slice ar rs.length cr] w (WrPost w (withP ⟨z0, z1, z2, z3, st, fr, hd, sta, res, cod⟩ y0 y1 y2 y3 rs)) := by
  obtain ⟨k1, k2, k3⟩ := k
  obtain ⟨a1, c1, rfl⟩ := k1.slice
  obtain ⟨a2, c2, rfl⟩ := k2.slice
  obtain ⟨a3, c3, rfl⟩ := k3.slice
  obtain ⟨rb, ro, rfl, hrb, hrc⟩ : ∃ rb ro, ar = some ⟨rb, ro, none⟩ ∧ rb < w.heap.size ∧ ∀ j u, (wdL rs)[j]? = some u → w.cell? ⟨rb, ro + j, none⟩ = some u := by
    obtain ⟨a, c, e, h⟩ := hv
    cases e
    rcases h with h | ⟨b, o, rfl, -, hb, hc⟩
    · omega
    · exact ⟨b, o, rfl, hb, hc⟩
  have HRC := Lib.hid hrc
  have n1 : st.length ≤ 100000 := hF.n1
  have n2 : fr.length ≤ 100000 := hF.n2
  have N1 := Lib.hid n1
  have N2 := Lib.hid n2
  have NE := Lib.hid hne
  have CR := Lib.hid hcr
  obtain ⟨W, hW⟩ : ∃ W, ((w.alloc (.cells #[.int .i64 z0, .int .i64 z1, .int .i64 z2, .int .i64 z3, .slice a1 st.length c1, .slice a2 fr.length c2, .slice a3 hd.length c3, .int .i64 sta, .int .u64 res, .int .i64 cod] 45)).alloc (.cells #[.int .i64 y0, .int .i64 y1, .int .i64 y2, .int .i64 y3] 39)).alloc (.cells #[.int .i64 0, .int .i64 0, .int .i64 0, .int .i64 0, .slice none 0 0, .slice none 0 0, .slice none 0 0, .int .i64 0, .int .u64 0, .int .i64 0] 45) = W := ⟨_, rfl⟩
  have BW := Lib.hid (show Below w.heap.size w W by rw [← hW]; exact down_alloc (down_alloc (down_alloc (Below.refl _ _) _) _) _)
  have R1 := Lib.hid (show rowAt W w.heap.size 45 [.int .i64 z0, .int .i64 z1, .int .i64 z2, .int .i64 z3, .slice a1 st.length c1, .slice a2 fr.length c2, .slice a3 hd.length c3, .int .i64 sta, .int .u64 res, .int .i64 cod] by rw [← hW]; exact ((rowAt.made w 45 _).alloc _).alloc _)
  have RY := Lib.hid (show rowAt W (w.heap.size + 1) 39 [.int .i64 y0, .int .i64 y1, .int .i64 y2, .int .i64 y3] by rw [← hW]; exact (rowAt.made_at (w := w.alloc (.cells #[.int .i64 z0, .int .i64 z1, .int .i64 z2, .int .i64 z3, .slice a1 st.length c1, .slice a2 fr.length c2, .slice a3 hd.length c3, .int .i64 sta, .int .u64 res, .int .i64 cod] 45)) (b := w.heap.size + 1) 39 [.int .i64 y0, .int .i64 y1, .int .i64 y2, .int .i64 y3] (by simp)).alloc _)
  have R2 := Lib.hid (show rowAt W (w.heap.size + 2) 45 [.int .i64 0, .int .i64 0, .int .i64 0, .int .i64 0, .slice none 0 0, .slice none 0 0, .slice none 0 0, .int .i64 0, .int .u64 0, .int .i64 0] by rw [← hW]; exact rowAt.made_at (w := (w.alloc (.cells #[.int .i64 z0, .int .i64 z1, .int .i64 z2, .int .i64 z3, .slice a1 st.length c1, .slice a2 fr.length c2, .slice a3 hd.length c3, .int .i64 sta, .int .u64 res, .int .i64 cod] 45)).alloc (.cells #[.int .i64 y0, .int .i64 y1, .int .i64 y2, .int .i64 y3] 39)) (b := w.heap.size + 2) 45 [.int .i64 0, .int .i64 0, .int .i64 0, .int .i64 0, .slice none 0 0, .slice none 0 0, .slice none 0 0, .int .i64 0, .int .u64 0, .int .i64 0] (by simp))
  have HS := Lib.hid (show W.heap.size = w.heap.size + 3 by rw [← hW]; simp)
  have KK := Lib.hid (show maAt S W (.slice a1 st.length c1) (.slice a2 fr.length c2) (.slice a3 hd.length c3) ⟨z0, z1, z2, z3, st, fr, hd, sta, res, cod⟩ from ⟨k1.below BW.out, k2.below BW.out, k3.below BW.out⟩)
  have HF := Lib.hid hF
  have t0 : wrap64 (wrap64 (((st.length : Nat) : Int) + fr.length) + 1) = st.length + fr.length + 1 := by unfold wrap64; omega
  have t1 : ((rs.length : Int) != (st.length : Int) + fr.length + 1) = false := by simp; omega
  obtain ⟨d0, d1, d2, d3, d4, d5, d6, d7, d8, d9⟩ := cells10 R1.out
  clear k1 k2 k3 hF hv hne hcr hrc n1 n2
  go_enter Tryz.func14, Tryz.ntmps14
  go_wp2_with fail
  refine (own_any (M := ⟨z0, z1, z2, z3, st, fr, hd, sta, res, cod⟩) KK.out HF.out).mono ?_
  rintro e w1 ⟨g1, g2, g3, rfl, ho⟩
  simp only
  have HO := Lib.hid ho
  have x1 := R1.out.below ho.2.2.2.2.2.2.2.2.2 R1.out.lt
  obtain ⟨d0, d1, d2, d3, d4, d5, d6, d7, d8, d9⟩ := cells10 x1
  obtain ⟨p0, p1, p2, p3, p4, p5, p6, p7, p8, p9⟩ := frees10 x1
  have xl := x1.lt
  obtain ⟨W2, hW2⟩ : ∃ W2, (((((((((w1.setCell ⟨w.heap.size, 0, none⟩ (.int .i64 z0)).setCell ⟨w.heap.size, 1, none⟩ (.int .i64 z1)).setCell ⟨w.heap.size, 2, none⟩ (.int .i64 z2)).setCell ⟨w.heap.size, 3, none⟩ (.int .i64 z3)).setCell ⟨w.heap.size, 4, none⟩ (.slice (some ⟨g1, 0, none⟩) st.length st.length)).setCell ⟨w.heap.size, 5, none⟩ (.slice (some ⟨g2, 0, none⟩) fr.length fr.length)).setCell ⟨w.heap.size, 6, none⟩ (.slice (some ⟨g3, 0, none⟩) hd.length hd.length)).setCell ⟨w.heap.size, 7, none⟩ (.int .i64 sta)).setCell ⟨w.heap.size, 8, none⟩ (.int .u64 res)).setCell ⟨w.heap.size, 9, none⟩ (.int .i64 cod) = W2 := ⟨_, rfl⟩
  have I2 := Lib.hid (show WrIn w W2 [.int .i64 z0, .int .i64 z1, .int .i64 z2, .int .i64 z3, .slice (some ⟨g1, 0, none⟩) st.length st.length, .slice (some ⟨g2, 0, none⟩) fr.length fr.length, .slice (some ⟨g3, 0, none⟩) hd.length hd.length, .int .i64 sta, .int .u64 res, .int .i64 cod] [.int .i64 y0, .int .i64 y1, .int .i64 y2, .int .i64 y3] (wdL st) (frL fr) (hdL hd) g1 g2 g3 by rw [← hW2]; exact WrIn.of_own HS.out R1.out RY.out R2.out BW.out HO.out)
  obtain ⟨e0, e1, e2, e3, e4, e5, e6, e7, e8, e9⟩ := cells10 I2.out.r1
  obtain ⟨q0, q1, q2, q3, q4, q5, q6, q7, q8, q9⟩ := frees10 I2.out.r1
  have il := I2.out.r1.lt
  have ey0 : W2.cell? ⟨w.heap.size + 1, 0, none⟩ = some (.int .i64 y0) := I2.out.ry.cell 0
  have ey1 : W2.cell? ⟨w.heap.size + 1, 1, none⟩ = some (.int .i64 y1) := I2.out.ry.cell 1
  have ey2 : W2.cell? ⟨w.heap.size + 1, 2, none⟩ = some (.int .i64 y2) := I2.out.ry.cell 2
  have ey3 : W2.cell? ⟨w.heap.size + 1, 3, none⟩ = some (.int .i64 y3) := I2.out.ry.cell 3
  obtain ⟨W3, hW3⟩ : ∃ W3, (((W2.setCell ⟨w.heap.size, 0, none⟩ (.int .i64 y0)).setCell ⟨w.heap.size, 1, none⟩ (.int .i64 y1)).setCell ⟨w.heap.size, 2, none⟩ (.int .i64 y2)).setCell ⟨w.heap.size, 3, none⟩ (.int .i64 y3) = W3 := ⟨_, rfl⟩
  have I3 := Lib.hid (show WrIn w W3 [.int .i64 y0, .int .i64 y1, .int .i64 y2, .int .i64 y3, .slice (some ⟨g1, 0, none⟩) st.length st.length, .slice (some ⟨g2, 0, none⟩) fr.length fr.length, .slice (some ⟨g3, 0, none⟩) hd.length hd.length, .int .i64 sta, .int .u64 res, .int .i64 cod] [.int .i64 y0, .int .i64 y1, .int .i64 y2, .int .i64 y3] (wdL st) (frL fr) (hdL hd) g1 g2 g3 by rw [← hW3]; exact (((I2.out.box 0 (.int .i64 y0)).box 1 (.int .i64 y1)).box 2 (.int .i64 y2)).box 3 (.int .i64 y3))
  have e4' : W3.cell? ⟨w.heap.size, 4, none⟩ = some (.slice (some ⟨g1, 0, none⟩) st.length st.length) := (I3.out.r1.cell 4).trans rfl
  obtain ⟨cs, hcs⟩ : ∃ cs, wdL (rs.take st.length) = cs := ⟨_, rfl⟩
  have hcl : cs.length = st.length := by rw [← hcs]; have := NE.out; simp; omega
  have hcp : (Builtin.copy_ #[40, 40] 3 #[.slice (some ⟨g1, 0, none⟩) st.length st.length, .slice (some ⟨rb, ro, none⟩) rs.length cr]).run Tryz.prog W3 = .ok (.int .i64 st.length) (W3.setRow g1 cs.toArray) := by
    have hsrc : ∀ j v, cs[j]? = some v → W3.cell? ((⟨rb, ro, none⟩ : Addr).add j) = some v := fun j v hj => by
      rw [show ((⟨rb, ro, none⟩ : Addr).add j) = ⟨rb, ro + j, none⟩ by unfold Addr.add; split <;> simp_all]
      rw [← hcs, wdL_take, List.getElem?_take] at hj
      split at hj
      · exact (I3.out.hb.cell (p := ⟨rb, ro + j, none⟩) hrb).trans (HRC.out j v hj)
      · cases hj
    have h := run_copy_wideF (P := Tryz.prog) W3 40 40 3 43 g1 0 st.length st.length ⟨rb, ro, none⟩ rs.length cr (wdL st) 43 cs st.length 1 under_W size_W I3.out.o1 (Nat.min_eq_right (by have := NE.out; omega)) (by omega) hsrc (by simp; omega) (by rw [← hcs]; exact wdL_one)
    rw [h]
    congr 2
    unfold splF
    rw [List.take_zero, List.nil_append, List.drop_of_length_le (by simp; omega), List.append_nil]
  obtain ⟨W4, hW4⟩ : ∃ W4, W3.setRow g1 cs.toArray = W4 := ⟨_, rfl⟩
  have I4 := Lib.hid (show WrIn w W4 [.int .i64 y0, .int .i64 y1, .int .i64 y2, .int .i64 y3, .slice (some ⟨g1, 0, none⟩) st.length st.length, .slice (some ⟨g2, 0, none⟩) fr.length fr.length, .slice (some ⟨g3, 0, none⟩) hd.length hd.length, .int .i64 sta, .int .u64 res, .int .i64 cod] [.int .i64 y0, .int .i64 y1, .int .i64 y2, .int .i64 y3] cs (frL fr) (hdL hd) g1 g2 g3 by rw [← hW4]; exact I3.out.stack cs)
  rw [hW4] at hcp
  have sl1 : ∀ w, (Instr.slice 40 (.slice (some ⟨rb, ro, none⟩) rs.length cr) (some (.int .i64 (st.length : Int))) none none).run Tryz.prog w = .ok (.slice (some ⟨rb, ro + st.length, none⟩) (fr.length + 1) (cr - st.length)) w := fun w => by
    obtain ⟨i, hi, hz0, hz1, hz2⟩ := info_parts info_W
    have h1 := NE.out
    have h2 := CR.out
    rw [run_slice_from_w _ _ under_W hi _ (by omega) w, if_neg (by omega), hz1]
    have : rs.length - st.length = fr.length + 1 := by omega
    simp [Addr.add, this]
  have e5' : W4.cell? ⟨w.heap.size, 5, none⟩ = some (.slice (some ⟨g2, 0, none⟩) fr.length fr.length) := (I4.out.r1.cell 5).trans rfl
  have CS := Lib.hid hcs
  clear hcs hW4
  go_wp2_with fail
  clear hW hW2 hW3 hcp e0 e1 e2 e3 e4 e5 e6 e7 e8 e9 q0 q1 q2 q3 q4 q5 q6 q7 q8 q9 d0 d1 d2 d3 d4 d5 d6 d7 d8 d9 p0 p1 p2 p3 p4 p5 p6 p7 p8 p9 xl il x1 ho sl1 e4' e5' ey0 ey1 ey2 ey3 hcl
  go_loopw [35] (fun i wr => ∃ k : Nat, k ≤ fr.length ∧ i = .int .i64 k ∧ Hid (WrIn w wr [.int .i64 y0, .int .i64 y1, .int .i64 y2, .int .i64 y3, .slice (some ⟨g1, 0, none⟩) st.length st.length, .slice (some ⟨g2, 0, none⟩) fr.length fr.length, .slice (some ⟨g3, 0, none⟩) hd.length hd.length, .int .i64 sta, .int .u64 res, .int .i64 cod] [.int .i64 y0, .int .i64 y1, .int .i64 y2, .int .i64 y3] cs (frL (setS fr ((rs.drop st.length).take k))) (hdL hd) g1 g2 g3)) (fun i _ => fr.length - (intOf i).toNat)
  case atStart => exact ⟨0, Nat.zero_le _, rfl, by simpa [setS_nil] using I4⟩
  case round =>
    obtain ⟨k, hk, rfl, HR⟩ := hrel
    have n2 : fr.length ≤ 100000 := N2.out
    have hkr : st.length + k < rs.length := by have := NE.out; omega
    obtain ⟨x, hx⟩ : ∃ x, rs[st.length + k]? = some x := ⟨_, List.getElem?_eq_getElem hkr⟩
    have b5 : wr.cell? ⟨w.heap.size, 5, none⟩ = some (.slice (some ⟨g2, 0, none⟩) fr.length fr.length) := (HR.out.r1.cell 5).trans rfl
    have xc : wr.cell? ⟨rb, ro + st.length + k, none⟩ = some (.int .u64 x) := by
      rw [Nat.add_assoc]
      exact (HR.out.hb.cell (p := ⟨rb, ro + (st.length + k), none⟩) hrb).trans (HRC.out _ _ (by rw [List.getElem?_map, hx]; rfl))
    have HX := Lib.hid hx
    clear hx
    by_cases hlt : k < fr.length
    · obtain ⟨u, hu⟩ : ∃ u, (frL (setS fr ((rs.drop st.length).take k)))[k * 4 + 3]? = some u := ⟨_, List.getElem?_eq_getElem (by rw [frL_length, setS_length]; omega)⟩
      have cu : wr.cell? ⟨g2, k * 4 + 3, none⟩ = some u := (HR.out.o2.cell _).trans hu
      have fu := HR.out.o2.free (k * 4 + 3)
      have lu := HR.out.o2.lt
      have t2 : k < fr.length + 1 := by omega
      have L2 := Lib.hid HR.out.l2
      clear hu
      go_wp2_with fail
      go_region
      all_goals
        go_wp2_with fail
        go_roundw
        case rel =>
          have PX := Lib.hid ((HR.out.drew).frame (k * 4 + 3) (.int .u64 x))
          have e1 : (rs.drop st.length).take (k + 1) = (rs.drop st.length).take k ++ [x] := by rw [List.take_add_one, List.getElem?_drop, HX.out]; rfl
          have e2 : ((rs.drop st.length).take k).length = k := by rw [List.length_take, List.length_drop]; omega
          have e3 := setS_snoc fr ((rs.drop st.length).take k) x (by omega)
          rw [e2] at e3
          rw [← e3, ← e1] at PX
          exact ⟨k + 1, by omega, by go_num, PX⟩
        case measure => simp [intOf]; omega
    · obtain rfl : k = fr.length := by omega
      have t2 : fr.length < fr.length + 1 := by omega
      have b8 : wr.cell? ⟨w.heap.size, 8, none⟩ = some (.int .u64 res) := (HR.out.r1.cell 8).trans rfl
      have f8 := HR.out.r1.free 8
      have l8 := HR.out.r1.lt
      obtain ⟨W5, hW5⟩ : ∃ W5, wr.setCell ⟨w.heap.size, 8, none⟩ (.int .u64 x) = W5 := ⟨_, rfl⟩
      have I5 := Lib.hid (show WrIn w W5 [.int .i64 y0, .int .i64 y1, .int .i64 y2, .int .i64 y3, .slice (some ⟨g1, 0, none⟩) st.length st.length, .slice (some ⟨g2, 0, none⟩) fr.length fr.length, .slice (some ⟨g3, 0, none⟩) hd.length hd.length, .int .i64 sta, .int .u64 x, .int .i64 cod] [.int .i64 y0, .int .i64 y1, .int .i64 y2, .int .i64 y3] cs (frL (setS fr ((rs.drop st.length).take fr.length))) (hdL hd) g1 g2 g3 by rw [← hW5]; exact HR.out.box 8 _)
      obtain ⟨e0, e1, e2, e3, e4, e5, e6, e7, e8, e9⟩ := cells10 I5.out.r1
      obtain ⟨v0, v1, v2, v3, v4, v5, v6, v7, v8, v9⟩ := cells10 I5.out.r2
      obtain ⟨m0, m1, m2, m3, m4, m5, m6, m7, m8, m9⟩ := frees10 I5.out.r2
      have vl := I5.out.r2.lt
      have FIN : ∀ WF, Upon (fun k => k = w.heap.size + 2) W5 WF → WrPost w (withP ⟨z0, z1, z2, z3, st, fr, hd, sta, res, cod⟩ y0 y1 y2 y3 rs) (.returned (.tuple #[maV y0 y1 y2 y3 (.slice (some ⟨g1, 0, none⟩) st.length st.length) (.slice (some ⟨g2, 0, none⟩) fr.length fr.length) (.slice (some ⟨g3, 0, none⟩) hd.length hd.length) sta x cod, .bool true])) WF := fun WF hu => by
        have k1 := I5.out.l1
        have k2 := I5.out.l2
        have k3 := I5.out.l3
        have e : rs.getD (st.length + fr.length) 0 = x := by simp [List.getD, HX.out]
        refine ⟨.slice (some ⟨g1, 0, none⟩) st.length st.length, .slice (some ⟨g2, 0, none⟩) fr.length fr.length, .slice (some ⟨g3, 0, none⟩) hd.length hd.length, by simp only [withP, e], ⟨?_, ?_, ?_⟩, I5.out.hb.trans (hu.belowB I5.out.hb.size fun k hk => by omega)⟩
        · simp only [withP]
          rw [show (rs.take st.length).length = st.length by have := NE.out; simp; omega, CS.out]
          exact rd_row (I5.out.o1.upon hu (by omega)) (by omega) fun _ _ h => h
        · simp only [withP]
          rw [setS_length]
          exact rd_row (I5.out.o2.upon hu (by omega)) (by omega) fun _ _ h => h
        · exact rd_row (I5.out.o3.upon hu (by omega)) (by omega) fun _ _ h => h
      have FN := Lib.hid FIN
      clear FIN
      go_wp2_with fail
      refine bodyPost_ret (v := .tuple #[maV y0 y1 y2 y3 (.slice (some ⟨g1, 0, none⟩) st.length st.length) (.slice (some ⟨g2, 0, none⟩) fr.length fr.length) (.slice (some ⟨g3, 0, none⟩) hd.length hd.length) sta x cod, .bool true]) (by simp [results, Tryz.results14, go_sem, v0, v1, v2, v3, v4, v5, v6, v7, v8, v9]) rfl (FN.out _ ?_)
      iterate 10 refine Upon.set1 ?_ (by rfl) _
      exact Upon.refl _ _

theorem with_any {S S' : Nat → Prop} {w : World} {s f h : Value} (M : PMa) (y0 y1 y2 y3 : Int) {ar : Option Addr} {cr : Nat} {rs : List Int} (k : maAt S w s f h M) (hF : maF M)
    (hv : rdAt S' w (.slice ar rs.length cr) rs.length (wdL rs)) (hcr : rs.length ≤ cr) :
    Calls Tryz.prog 14 #[maV M.z0 M.z1 M.z2 M.z3 s f h M.state M.res M.code, .agg #[.int .i64 y0, .int .i64 y1, .int .i64 y2, .int .i64 y3], .slice ar rs.length cr] w fun e w' =>
      if rs.length = M.st.length + M.fr.length + 1 then WrPost w (withP M y0 y1 y2 y3 rs) e w' else WrNo w e w' := by
  obtain ⟨z0, z1, z2, z3, st, fr, hd, sta, res, cod⟩ := M
  by_cases h : rs.length = st.length + fr.length + 1
  · exact (with_yes k hF hv hcr h).mono fun e w' hp => by rw [if_pos h]; exact hp
  · exact (with_no k hF hv h).mono fun e w' hp => by rw [if_neg h]; exact hp
end Go.Proofs.YtajkkinolpkfmaaGreatDoor

/-
  Package frame: a machine with its own roots is itself (plain).
  Conditions: none.
-/
namespace Go.Proofs.YtajkkinolpkfmaaGreatDoor
set_option linter.unusedVariables false
set_option linter.unusedSimpArgs false
open Go.ChangeShapes Go.WideShapes Go.ChangeAt Go.RowKit

theorem setS_selfs : ∀ l : List PFr, setS l (selfs l) = l
  | [] => rfl
  | f :: l => by
    have ih := setS_selfs l
    simp only [selfs, List.map_cons, setS] at ih ⊢
    rw [ih]
theorem rootsP_length (M : PMa) : (rootsP M).length = M.st.length + M.fr.length + 1 := by simp [rootsP, selfs]; omega
theorem with_roots (M : PMa) : withP M M.z0 M.z1 M.z2 M.z3 (rootsP M) = M := by
  obtain ⟨z0, z1, z2, z3, st, fr, hd, sta, res, cod⟩ := M
  have h1 : (st ++ selfs fr ++ [res]).take st.length = st := by rw [List.append_assoc, List.take_left' rfl]
  have h2 : ((st ++ selfs fr ++ [res]).drop st.length).take fr.length = selfs fr := by
    rw [List.append_assoc, List.drop_left' rfl, List.take_left' (by simp [selfs])]
  have h3 : (st ++ selfs fr ++ [res]).getD (st.length + fr.length) 0 = res := by
    rw [List.getD_eq_getElem?_getD, List.getElem?_append_right (by simp [selfs])]
    simp [selfs]
  simp only [withP, rootsP, h1, h2, h3, setS_selfs]
end Go.Proofs.YtajkkinolpkfmaaGreatDoor
