/-
  Package frame: a machine with lists of its own.
  Conditions: as each states.
-/
import Derived.Test.YtjkneniakeffnaaDoorFa
import Derived.Deep.RegionWith
import Derived.Deep.DeepCutAuto
namespace Go.Proofs.YtjkneniakeffnaaDoor
open Go.ChangeShapes Go.WideShapes Go.ChangeAt Go.RowKit
set_option linter.unusedVariables false
set_option linter.unusedSimpArgs false
set_option maxRecDepth 100000

/-- What own tells: the machine's lists in three rows of its own. -/
def OwnAt (w w' : World) (g1 g2 g3 : Nat) (M : PMa) : Prop :=
  rowAt w' g1 24 (wdL M.st) ∧ rowAt w' g2 27 (frL M.fr) ∧ rowAt w' g3 36 (hdL M.hd) ∧ w.heap.size ≤ g1 ∧ w.heap.size ≤ g2 ∧ w.heap.size ≤ g3 ∧ g1 ≠ g2 ∧ g1 ≠ g3 ∧ g2 ≠ g3 ∧ Below w.heap.size w w'
def OwnPost (w : World) (M : PMa) (e : Ending) (w' : World) : Prop :=
  ∃ g1 g2 g3, e = .returned (maV M.z0 M.z1 M.z2 M.z3 (.slice (some ⟨g1, 0, none⟩) M.st.length M.st.length) (.slice (some ⟨g2, 0, none⟩) M.fr.length M.fr.length) (.slice (some ⟨g3, 0, none⟩) M.hd.length M.hd.length) M.state M.res M.code) ∧ OwnAt w w' g1 g2 g3 M

theorem cells10 {w : World} {b : Nat} {T : TypeId} {c0 c1 c2 c3 c4 c5 c6 c7 c8 c9 : Value} (h : rowAt w b T [c0, c1, c2, c3, c4, c5, c6, c7, c8, c9]) :
    w.cell? ⟨b, 0, none⟩ = some c0 ∧ w.cell? ⟨b, 1, none⟩ = some c1 ∧ w.cell? ⟨b, 2, none⟩ = some c2 ∧ w.cell? ⟨b, 3, none⟩ = some c3 ∧ w.cell? ⟨b, 4, none⟩ = some c4 ∧ w.cell? ⟨b, 5, none⟩ = some c5 ∧ w.cell? ⟨b, 6, none⟩ = some c6 ∧ w.cell? ⟨b, 7, none⟩ = some c7 ∧ w.cell? ⟨b, 8, none⟩ = some c8 ∧ w.cell? ⟨b, 9, none⟩ = some c9 :=
  ⟨h.cell 0, h.cell 1, h.cell 2, h.cell 3, h.cell 4, h.cell 5, h.cell 6, h.cell 7, h.cell 8, h.cell 9⟩
theorem frees10 {w : World} {b : Nat} {T : TypeId} {cs : List Value} (h : rowAt w b T cs) :
    w.frozen? ⟨b, 0, none⟩ = false ∧ w.frozen? ⟨b, 1, none⟩ = false ∧ w.frozen? ⟨b, 2, none⟩ = false ∧ w.frozen? ⟨b, 3, none⟩ = false ∧ w.frozen? ⟨b, 4, none⟩ = false ∧ w.frozen? ⟨b, 5, none⟩ = false ∧ w.frozen? ⟨b, 6, none⟩ = false ∧ w.frozen? ⟨b, 7, none⟩ = false ∧ w.frozen? ⟨b, 8, none⟩ = false ∧ w.frozen? ⟨b, 9, none⟩ = false :=
  ⟨h.free 0, h.free 1, h.free 2, h.free 3, h.free 4, h.free 5, h.free 6, h.free 7, h.free 8, h.free 9⟩
theorem Upon.set1 {S : Nat → Prop} {w W : World} (h : Upon S w W) {p : Addr} (hp : S p.block) (v : Value) : Upon S w (W.setCell p v) := h.trans (Upon.setCell p v hp) fun _ _ t => t
def OwnCut (w : World) (z0 z1 z2 z3 : Int) (st : List Int) (fr : List PFr) (hd : List PHd) (sta res cod : Int) (wx : World) : Prop :=
  ∃ g1 g2 g3, rowAt wx w.heap.size 34 [.int .i64 z0, .int .i64 z1, .int .i64 z2, .int .i64 z3, .slice (some ⟨g1, 0, none⟩) st.length st.length, .slice (some ⟨g2, 0, none⟩) fr.length fr.length, .slice (some ⟨g3, 0, none⟩) hd.length hd.length, .int .i64 sta, .int .u64 res, .int .i64 cod] ∧
      rowAt wx (w.heap.size + 1) 34 [.int .i64 0, .int .i64 0, .int .i64 0, .int .i64 0, .slice none 0 0, .slice none 0 0, .slice none 0 0, .int .i64 0, .int .u64 0, .int .i64 0] ∧ w.heap.size + 1 < g1 ∧ w.heap.size + 1 < g2 ∧ w.heap.size + 1 < g3 ∧ OwnAt w wx g1 g2 g3 ⟨z0, z1, z2, z3, st, fr, hd, sta, res, cod⟩
theorem own_close {w w3 : World} {g1 g2 g3 : Nat} {z0 z1 z2 z3 : Int} {st : List Int} {fr : List PFr} {hd : List PHd} {sta res cod : Int} {s f h : Value}
    (R1 : rowAt w3 w.heap.size 34 [.int .i64 z0, .int .i64 z1, .int .i64 z2, .int .i64 z3, s, f, h, .int .i64 sta, .int .u64 res, .int .i64 cod])
    (R2 : rowAt w3 (w.heap.size + 1) 34 [.int .i64 0, .int .i64 0, .int .i64 0, .int .i64 0, .slice none 0 0, .slice none 0 0, .slice none 0 0, .int .i64 0, .int .u64 0, .int .i64 0])
    (o1 : rowAt w3 g1 24 (wdL st)) (o2 : rowAt w3 g2 27 (frL fr)) (o3 : rowAt w3 g3 36 (hdL hd)) (l1 : w.heap.size + 1 < g1) (l2 : g1 < g2) (l3 : g2 < g3) (B : Below w.heap.size w w3) :
    OwnCut w z0 z1 z2 z3 st fr hd sta res cod (((w3.setCell ⟨w.heap.size, 4, none⟩ (.slice (some ⟨g1, 0, none⟩) st.length st.length)).setCell ⟨w.heap.size, 5, none⟩ (.slice (some ⟨g2, 0, none⟩) fr.length fr.length)).setCell ⟨w.heap.size, 6, none⟩ (.slice (some ⟨g3, 0, none⟩) hd.length hd.length)) := by
  refine ⟨g1, g2, g3, ((R1.set 4 _).set 5 _).set 6 _, ?_, l1, by omega, by omega, ?_, ?_, ?_, by omega, by omega, by omega, by omega, by omega, by omega, ?_⟩
  · exact ((R2.other _ _ (by simp)).other _ _ (by simp)).other _ _ (by simp)
  · exact ((o1.other _ _ (by simp; omega)).other _ _ (by simp; omega)).other _ _ (by simp; omega)
  · exact ((o2.other _ _ (by simp; omega)).other _ _ (by simp; omega)).other _ _ (by simp; omega)
  · exact ((o3.other _ _ (by simp; omega)).other _ _ (by simp; omega)).other _ _ (by simp; omega)
  · exact down_set (down_set (down_set B (by simp) _) (by simp) _) (by simp) _
theorem own_ret {w wx : World} {z0 z1 z2 z3 : Int} {st : List Int} {fr : List PFr} {hd : List PHd} {sta res cod : Int} {g1 g2 g3 : Nat} {W : World} (o : OwnAt w wx g1 g2 g3 ⟨z0, z1, z2, z3, st, fr, hd, sta, res, cod⟩)
    (l1 : w.heap.size + 1 < g1) (l2 : w.heap.size + 1 < g2) (l3 : w.heap.size + 1 < g3) (hu : Upon (fun k => k = w.heap.size + 1) wx W) :
    OwnPost w ⟨z0, z1, z2, z3, st, fr, hd, sta, res, cod⟩ (.returned (maV z0 z1 z2 z3 (.slice (some ⟨g1, 0, none⟩) st.length st.length) (.slice (some ⟨g2, 0, none⟩) fr.length fr.length) (.slice (some ⟨g3, 0, none⟩) hd.length hd.length) sta res cod)) W := by
  obtain ⟨o1, o2, o3, a1, a2, a3, e1, e2, e3, hb⟩ := o
  exact ⟨g1, g2, g3, rfl, o1.upon hu (by omega), o2.upon hu (by omega), o3.upon hu (by omega), a1, a2, a3, e1, e2, e3, hb.trans (hu.belowB hb.size (fun k hk => by omega))⟩
set_option maxHeartbeats 4000000 in
theorem own_any {S : Nat → Prop} {w : World} {s f h : Value} {M : PMa} (k : maAt S w s f h M) (hF : maF M) :
    Calls Tryd.prog 13 #[maV M.z0 M.z1 M.z2 M.z3 s f h M.state M.res M.code] w (OwnPost w M) := by
  obtain ⟨k1, k2, k3⟩ := k
  have K1 := Lib.hid k1
  have K2 := Lib.hid k2
  have K3 := Lib.hid k3
  obtain ⟨a1, c1, rfl⟩ := k1.slice
  obtain ⟨a2, c2, rfl⟩ := k2.slice
  obtain ⟨a3, c3, rfl⟩ := k3.slice
  have F1 := Lib.hid hF.n1
  have F2 := Lib.hid hF.n2
  have F3 := Lib.hid hF.n3
  clear k1 k2 k3 hF
  obtain ⟨z0, z1, z2, z3, st, fr, hd, sta, res, cod⟩ := M
  simp only at K1 K2 K3 F1 F2 F3 ⊢
  obtain ⟨W, hW⟩ : ∃ W, (w.alloc (.cells #[.int .i64 z0, .int .i64 z1, .int .i64 z2, .int .i64 z3, .slice a1 st.length c1, .slice a2 fr.length c2, .slice a3 hd.length c3, .int .i64 sta, .int .u64 res, .int .i64 cod] 34)).alloc (.cells #[.int .i64 0, .int .i64 0, .int .i64 0, .int .i64 0, .slice none 0 0, .slice none 0 0, .slice none 0 0, .int .i64 0, .int .u64 0, .int .i64 0] 34) = W := ⟨_, rfl⟩
  have BW := Lib.hid (show Below w.heap.size w W by rw [← hW]; exact down_alloc (down_alloc (Below.refl _ _) _) _)
  have r1 := rowAt.made w 34 [.int .i64 z0, .int .i64 z1, .int .i64 z2, .int .i64 z3, .slice a1 st.length c1, .slice a2 fr.length c2, .slice a3 hd.length c3, .int .i64 sta, .int .u64 res, .int .i64 cod]
  have r2 := rowAt.made_at (w := w.alloc (.cells #[.int .i64 z0, .int .i64 z1, .int .i64 z2, .int .i64 z3, .slice a1 st.length c1, .slice a2 fr.length c2, .slice a3 hd.length c3, .int .i64 sta, .int .u64 res, .int .i64 cod] 34)) (b := w.heap.size + 1) 34 [.int .i64 0, .int .i64 0, .int .i64 0, .int .i64 0, .slice none 0 0, .slice none 0 0, .slice none 0 0, .int .i64 0, .int .u64 0, .int .i64 0] (by simp)
  have R1 := Lib.hid (show rowAt W.drew w.heap.size 34 [.int .i64 z0, .int .i64 z1, .int .i64 z2, .int .i64 z3, .slice a1 st.length c1, .slice a2 fr.length c2, .slice a3 hd.length c3, .int .i64 sta, .int .u64 res, .int .i64 cod] by rw [← hW]; exact r1.alloc _)
  have R2 := Lib.hid (show rowAt W.drew (w.heap.size + 1) 34 [.int .i64 0, .int .i64 0, .int .i64 0, .int .i64 0, .slice none 0 0, .slice none 0 0, .slice none 0 0, .int .i64 0, .int .u64 0, .int .i64 0] by rw [← hW]; exact r2)
  have hsz : W.drew.heap.size = w.heap.size + 2 := by rw [← hW]; simp [World.drew, World.drewN]
  have HS := Lib.hid hsz
  have D1 := Lib.hid (K1.out.below (down_drew BW.out))
  clear r1 r2 hsz
  have d4 : W.cell? ⟨w.heap.size, 4, none⟩ = some (.slice a1 st.length c1) := (R1.out.cell 4).trans rfl
  have d5 : W.cell? ⟨w.heap.size, 5, none⟩ = some (.slice a2 fr.length c2) := (R1.out.cell 5).trans rfl
  have d6 : W.cell? ⟨w.heap.size, 6, none⟩ = some (.slice a3 hd.length c3) := (R1.out.cell 6).trans rfl
  go_enter Tryd.func13, Tryd.ntmps13
  go_upto_region 1 with fail
  go_cut [5] (fun _ wx => OwnCut w z0 z1 z2 z3 st fr hd sta res cod wx)
  case first =>
    go_region_with (first
      | (go_at_call 19
         refine (copied_W D1.out (wdL_length _) wdL_one F1.out).mono ?_
         rintro e w1 ⟨rfl, q1, b1⟩
         have C1 := Lib.hid (down_call (down_drew BW.out) b1)
         have D2 := Lib.hid (K2.out.below C1.out)
         have R1a := Lib.hid (R1.out.below b1 R1.out.lt)
         have R2a := Lib.hid (R2.out.below b1 R2.out.lt)
         have Q1 := Lib.hid q1
         have y5 : w1.cell? ⟨w.heap.size, 5, none⟩ = some (.slice a2 fr.length c2) := (R1a.out.cell 5).trans rfl
         have y6 : w1.cell? ⟨w.heap.size, 6, none⟩ = some (.slice a3 hd.length c3) := (R1a.out.cell 6).trans rfl
         have Z1 := Lib.hid b1.size
         clear b1 q1)
      | (go_at_call 20
         refine (copied_F D2.out (frL_length _) frL_one F2.out).mono ?_
         rintro e w2 ⟨rfl, q2, b2⟩
         have C2 := Lib.hid (down_call C1.out b2)
         have D3 := Lib.hid (K3.out.below C2.out)
         have R1b := Lib.hid (R1a.out.below b2 R1a.out.lt)
         have R2b := Lib.hid (R2a.out.below b2 R2a.out.lt)
         have Q1b := Lib.hid (Q1.out.below b2 Q1.out.lt)
         have L1 := Lib.hid Q1.out.lt
         have Q2 := Lib.hid q2
         have x6 : w2.cell? ⟨w.heap.size, 6, none⟩ = some (.slice a3 hd.length c3) := (R1b.out.cell 6).trans rfl
         clear b2 q2)
      | (go_at_call 21
         refine (copied_H D3.out (hdL_length _) hdL_one F3.out).mono ?_
         rintro e w3 ⟨rfl, q3, b3⟩
         have C3 := Lib.hid (down_call C2.out b3)
         have R1c := Lib.hid (R1b.out.below b3 R1b.out.lt)
         have R2c := Lib.hid (R2b.out.below b3 R2b.out.lt)
         have Q1c := Lib.hid (Q1b.out.below b3 Q1b.out.lt)
         have Q2c := Lib.hid (Q2.out.below b3 Q2.out.lt)
         have L2 := Lib.hid Q2.out.lt
         have Q3 := Lib.hid q3
         have u4 : w3.cell? ⟨w.heap.size, 4, none⟩ = some (.slice a1 st.length c1) := (R1c.out.cell 4).trans rfl
         have u5 : w3.cell? ⟨w.heap.size, 5, none⟩ = some (.slice a2 fr.length c2) := (R1c.out.cell 5).trans rfl
         have u6 : w3.cell? ⟨w.heap.size, 6, none⟩ = some (.slice a3 hd.length c3) := (R1c.out.cell 6).trans rfl
         have v4 := R1c.out.free 4
         have v5 := R1c.out.free 5
         have v6 := R1c.out.free 6
         have vl := R1c.out.lt
         clear b3 q3))
    all_goals
      go_wp2_with fail
      go_meet
      exact own_close R1c.out R2c.out Q1c.out Q2c.out Q3.out (by have := HS.out; simp only [World.drew, World.drewN] at this ⊢; omega) L1.out L2.out C3.out
  case rest =>
    obtain ⟨g1, g2, g3, r1, r2, l1, l2, l3, ho⟩ := hcut
    have HO := Lib.hid ho
    obtain ⟨e0, e1, e2, e3, e4, e5, e6, e7, e8, e9⟩ := cells10 r1
    obtain ⟨f0, f1, f2, f3, f4, f5, f6, f7, f8, f9⟩ := cells10 r2
    obtain ⟨p0, p1, p2, p3, p4, p5, p6, p7, p8, p9⟩ := frees10 r2
    have fl := r2.lt
    clear r1 r2 ho
    go_wp2_with fail
    refine bodyPost_ret (v := maV z0 z1 z2 z3 (.slice (some ⟨g1, 0, none⟩) st.length st.length) (.slice (some ⟨g2, 0, none⟩) fr.length fr.length) (.slice (some ⟨g3, 0, none⟩) hd.length hd.length) sta res cod) (by simp [results, Tryd.results13, go_sem, f0, f1, f2, f3, f4, f5, f6, f7, f8, f9]) rfl ?_
    refine own_ret HO.out l1 l2 l3 ?_
    iterate 10 refine Upon.set1 ?_ (by rfl) _
    exact Upon.refl _ _
end Go.Proofs.YtjkneniakeffnaaDoor
