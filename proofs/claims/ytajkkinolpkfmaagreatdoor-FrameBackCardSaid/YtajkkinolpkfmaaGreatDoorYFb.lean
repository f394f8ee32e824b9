/-
  Package frame: machines as plain data, in memory; its copies of lists.
  Conditions: as each states.
-/
import Derived.Test.YtajkkinolpkfmaaGreatDoorYCoIn
import Derived.Test.YtajkkinolpkfmaaGreatDoorWord
import Derived.Test.YtajkkinolpkfmaaGreatDoorShelf
import Derived.Laws.CopyRow
import Derived.Laws.CopyOwn
import Derived.RegionTactic
import Derived.BigRegion
import Derived.StillTailTactics
import Derived.Deep.RegionWith
import Derived.Deep.DeepCutAuto
namespace Go.Proofs.YtajkkinolpkfmaaGreatDoor
set_option linter.unusedVariables false
set_option linter.unusedSimpArgs false
open Go.ChangeShapes Go.WideShapes Go.ChangeAt Go.RowKit
set_option maxRecDepth 100000

abbrev PFr := Int × Int × Int × Int
abbrev PHd := Int × Int × Int
def frC (f : PFr) : List Value := [.int .i64 f.1, .int .i64 f.2.1, .int .i64 f.2.2.1, .int .u64 f.2.2.2]
def hdC (h : PHd) : List Value := [.int .i64 h.1, .int .i64 h.2.1, .int .i64 h.2.2]
abbrev wdL (l : List Int) : List Value := l.map (Value.int .u64)
def frL (l : List PFr) : List Value := l.flatMap frC
def hdL (l : List PHd) : List Value := l.flatMap hdC
/-- A machine as plain data. -/
structure PMa where
  z0 : Int
  z1 : Int
  z2 : Int
  z3 : Int
  st : List Int
  fr : List PFr
  hd : List PHd
  state : Int
  res : Int
  code : Int
abbrev maV (z0 z1 z2 z3 : Int) (s f h : Value) (st r c : Int) : Value := .agg #[.int .i64 z0, .int .i64 z1, .int .i64 z2, .int .i64 z3, s, f, h, .int .i64 st, .int .u64 r, .int .i64 c]
theorem wdL_length (l : List Int) : (wdL l).length = l.length * 1 := by simp
theorem frL_length (l : List PFr) : (frL l).length = l.length * 4 := by
  induction l with
  | nil => rfl
  | cons x l ih => simp [frL, frC] at ih ⊢; omega
theorem hdL_length (l : List PHd) : (hdL l).length = l.length * 3 := by
  induction l with
  | nil => rfl
  | cons x l ih => simp [hdL, hdC] at ih ⊢; omega
theorem wdL_one {l : List Int} : ∀ u ∈ wdL l, u.oneCell' = true := by
  intro u hu
  obtain ⟨s, _, rfl⟩ := List.mem_map.1 hu
  rfl
theorem frL_one {l : List PFr} : ∀ u ∈ frL l, u.oneCell' = true := by
  intro u hu
  obtain ⟨s, _, hs⟩ := List.mem_flatMap.1 hu
  simp only [frC, List.mem_cons, List.not_mem_nil, or_false] at hs
  rcases hs with rfl | rfl | rfl | rfl <;> rfl
theorem hdL_one {l : List PHd} : ∀ u ∈ hdL l, u.oneCell' = true := by
  intro u hu
  obtain ⟨s, _, hs⟩ := List.mem_flatMap.1 hu
  simp only [hdC, List.mem_cons, List.not_mem_nil, or_false] at hs
  rcases hs with rfl | rfl | rfl <;> rfl

/-- The machine that reads as M; its lists in blocks that S has not. -/
def maAt (S : Nat → Prop) (w : World) (s f h : Value) (M : PMa) : Prop :=
  rdAt S w s M.st.length (wdL M.st) ∧ rdAt S w f M.fr.length (frL M.fr) ∧ rdAt S w h M.hd.length (hdL M.hd)
theorem maAt.upon {S T : Nat → Prop} {w w' : World} {s f h : Value} {M : PMa} (k : maAt S w s f h M) (hu : Upon T w w') (hT : ∀ k, k < w.heap.size → T k → S k) : maAt S w' s f h M :=
  ⟨k.1.upon hu hT, k.2.1.upon hu hT, k.2.2.upon hu hT⟩
theorem maAt.below {S : Nat → Prop} {w w' : World} {s f h : Value} {M : PMa} (k : maAt S w s f h M) (hb : Below w.heap.size w w') : maAt S w' s f h M := k.upon (upon_of_below hb) fun _ _ t => t.elim
theorem maAt.off {S T : Nat → Prop} {w : World} {s f h : Value} {M : PMa} (k : maAt S w s f h M) (hT : ∀ k, k < w.heap.size → T k → S k) : maAt T w s f h M :=
  ⟨k.1.off hT, k.2.1.off hT, k.2.2.off hT⟩
structure maF (M : PMa) : Prop where
  n1 : M.st.length ≤ 100000
  n2 : M.fr.length ≤ 100000
  n3 : M.hd.length ≤ 100000

/-! ## copies -/
def splF (cur : List Value) (off : Nat) (cs : List Value) : List Value := cur.take off ++ (cs ++ cur.drop (off + cs.length))
theorem run_copy_wideF {P : Program} (w : World) (dT sT ty elem : TypeId) (g o dLen dCap : Nat) (a : Addr) (sLen sCap : Nat) (cur : List Value) (t : TypeId) (cs : List Value) (m size : Nat)
    (hu : P.underlying dT = some (.slice elem)) (hs : (P.info? elem).map (·.size) = some size)
    (hg : rowAt w g t cur) (hm : Nat.min sLen dLen = m) (hn : m * size = cs.length)
    (hsrc : ∀ j v, cs[j]? = some v → w.cell? (a.add j) = some v) (hfit : o + cs.length ≤ cur.length) (h1 : ∀ v ∈ cs, v.oneCell' = true) :
    (Builtin.copy_ #[dT, sT] ty #[.slice (some ⟨g, o, none⟩) dLen dCap, .slice (some a) sLen sCap]).run P w = .ok (.int .i64 m) (w.setRow g (splF cur o cs).toArray) := by
  have hl := run_loadCells_list (P := P) w a cs hsrc
  have hst := run_storeCells_at P g o t cs 0 cur.toArray w hg (by simpa using hfit) h1
  cases hq : P.info? elem with
  | none => simp [hq] at hs
  | some i =>
    have hi : i.size = size := by simpa [hq] using hs
    simp [Builtin.copy_, run_underlying hu, Builtin.lenOf, Builtin.firstCells, sizeOf, typeInfo, hq, hi, hm, hn, hl, hst, splF, goInt]
theorem run_copy_noneF {P : Program} (w : World) (dT sT ty elem : TypeId) (d a : Option Addr) (dLen dCap sLen sCap : Nat) (hu : P.underlying dT = some (.slice elem)) (hs : ((P.info? elem).map (·.size)).isSome = true) (hn : Nat.min sLen dLen = 0) :
    (Builtin.copy_ #[dT, sT] ty #[.slice d dLen dCap, .slice a sLen sCap]).run P w = .ok (.int .i64 0) w := by
  cases hq : P.info? elem with
  | none => simp [hq] at hs
  | some i =>
    have hl : ∀ (x : Addr), (loadCells x 0).run P w = .ok #[] w := fun x => by simpa using run_loadCells_list (P := P) w x [] (by simp)
    cases d <;> cases a <;> simp [Builtin.copy_, run_underlying hu, Builtin.lenOf, Builtin.firstCells, sizeOf, typeInfo, hq, hn, storeCells, hl, goInt]
theorem make_wide {P : Program} {t e : TypeId} {z : Value} {C B : Nat} (ht : P.underlying t = some (.slice e)) (hi : (P.info? e).map (fun i => (i.zero, i.size, i.bytes)) = some (some z, C, B)) (hB : B ≤ 64) (n : Nat) (hn : n ≤ 100000) :
    ∃ zs : List Value, zs.length = n * C ∧ ∀ w : World, (Instr.makeSlice t (.int .i64 (n : Int)) (.int .i64 (n : Int))).run P w = .ok (.slice (some ⟨w.heap.size, 0, none⟩) n n) (w.alloc (.cells ⟨zs⟩ e)) := by
  obtain ⟨i, hi, hz0, hz1, hz2⟩ := info_parts hi
  have h1 : (i.bytes : Int) * (n : Int) ≤ 64 * 100000 := by
    have : i.bytes * n ≤ 64 * 100000 := Nat.mul_le_mul (by omega) hn
    omega
  refine ⟨(madeCells z.cells (n * C)).toList, by rw [Array.length_toList, size_madeCells], fun w => ?_⟩
  have hr := run_make (P := P) w t e i _ ht hi hz0 .i64 .i64 n n (by omega) (by omega) (by omega) (by omega)
  simp only [Int.toNat_natCast] at hr
  rw [hr, hz1]
theorem rowAt.setRowF {w : World} {g : Nat} {t : TypeId} {cur cs : List Value} (h : rowAt w g t cur) : rowAt (w.setRow g cs.toArray) g t cs := setRow_heap w g _ _ t _ h
theorem upon_setRowF (w : World) (g : Nat) (cs : Array Value) : Upon (fun k => k = g) w (w.setRow g cs) :=
  ⟨rfl, rfl, rfl, by simp [World.setRow], fun k _ hs => setRow_other w g k cs fun e => hs e⟩

def CpPost (T : TypeId) (n : Nat) (cs : List Value) (w : World) (e : Ending) (w' : World) : Prop :=
  e = .returned (.slice (some ⟨w.heap.size, 0, none⟩) n n) ∧ rowAt w' w.heap.size T cs ∧ Below w.heap.size w w'
theorem cp_end {T : TypeId} {n : Nat} {cs zs : List Value} {w W : World} (hW : Hid (W = (w.alloc (.cells ⟨zs⟩ T)).setRow w.heap.size (splF zs 0 cs).toArray)) (hl : zs.length = cs.length) :
    CpPost T n cs w (.returned (.slice (some ⟨w.heap.size, 0, none⟩) n n)) W := by
  have hW := hW.out
  subst hW
  have e : splF zs 0 cs = cs := by unfold splF; rw [List.drop_of_length_le (by omega)]; simp
  rw [e]
  have r := rowAt.made w T zs
  exact ⟨rfl, r.setRowF, (down_alloc (Below.refl _ _) _).trans ((upon_setRowF _ _ _).belowB (by simp) (fun k e => by omega))⟩
theorem cp_none {T : TypeId} {zs : List Value} {w : World} (hl : zs.length = 0) : CpPost T 0 [] w (.returned (.slice (some ⟨w.heap.size, 0, none⟩) 0 0)) (w.alloc (.cells ⟨zs⟩ T)) := by
  obtain rfl := List.length_eq_zero_iff.1 hl
  exact ⟨rfl, rowAt.made w T [], down_alloc (Below.refl _ _) _⟩


theorem under_W : Tryz.prog.underlying 40 = some (.slice 43) := by kernel_rfl
theorem info_W : (Tryz.prog.info? 43).map (fun i => (i.zero, i.size, i.bytes)) = some (some (.int .u64 0), 1, 8) := by kernel_rfl
theorem size_W : (Tryz.prog.info? 43).map (·.size) = some 1 := by kernel_rfl
set_option maxHeartbeats 1000000 in
theorem copied_W {S : Nat → Prop} {w : World} {v : Value} {n : Nat} {cs : List Value} (h : rdAt S w v n cs) (hl : cs.length = n * 1) (h1 : ∀ u ∈ cs, u.oneCell' = true) (hn : n ≤ 100000) :
    Calls Tryz.prog 34 #[v] w (CpPost 43 n cs w) := by
  obtain ⟨a, c, rfl, h⟩ := h
  obtain ⟨zs, hzl, hmk⟩ := make_wide under_W info_W (by decide) n hn
  by_cases h0 : n = 0
  · subst h0
    obtain rfl : cs = [] := List.length_eq_zero_iff.1 (by omega)
    have hc := run_copy_noneF (P := Tryz.prog) (w.alloc (.cells ⟨zs⟩ 43)) 40 40 3 43 (some ⟨w.heap.size, 0, none⟩) a 0 0 0 c under_W (by rw [size_W]; rfl) rfl
    have E := Lib.hid (cp_none (T := 43) (zs := zs) (w := w) (by omega))
    have hmk0 : ∀ w : World, (Instr.makeSlice 40 (.int .i64 0) (.int .i64 0)).run Tryz.prog w = .ok (.slice (some ⟨w.heap.size, 0, none⟩) 0 0) (w.alloc (.cells ⟨zs⟩ 43)) := hmk
    clear hmk h hl h1 hzl
    go_enter Tryz.func34, Tryz.ntmps34
    go_wp2_with fail
    go_ret
    exact E.out
  · rcases h with h | ⟨b, o, rfl, -, hb, hc⟩
    · exact absurd h h0
    have r1 := rowAt.made w 43 zs
    have hsrc : ∀ j v, cs[j]? = some v → (w.alloc (.cells ⟨zs⟩ 43)).cell? ((⟨b, o, none⟩ : Addr).add j) = some v := fun j v hj => by
      rw [show ((⟨b, o, none⟩ : Addr).add j) = ⟨b, o + j, none⟩ by unfold Addr.add; split <;> simp_all]
      exact ((down_alloc (Below.refl w.heap.size w) (.cells ⟨zs⟩ 43)).cell (p := ⟨b, o + j, none⟩) hb).trans (hc j v hj)
    have hcp := run_copy_wideF (P := Tryz.prog) (w.alloc (.cells ⟨zs⟩ 43)) 40 40 3 43 w.heap.size 0 n n ⟨b, o, none⟩ n c zs 43 cs n 1 under_W size_W r1 (Nat.min_self n) hl.symm hsrc (by omega) h1
    obtain ⟨W, hW⟩ : ∃ W, (w.alloc (.cells ⟨zs⟩ 43)).setRow w.heap.size (splF zs 0 cs).toArray = W := ⟨_, rfl⟩
    rw [hW] at hcp
    have E := Lib.hid (cp_end (T := 43) (n := n) (cs := cs) (zs := zs) (w := w) (W := W) (Lib.hid hW.symm) (by omega))
    have n2 : (0 : Int) ≤ n := by omega
    clear hW hsrc hc hl h1 hzl r1 hb h0
    go_enter Tryz.func34, Tryz.ntmps34
    go_wp2_with fail
    go_ret
    exact E.out


theorem under_F : Tryz.prog.underlying 41 = some (.slice 65) := by kernel_rfl
theorem info_F : (Tryz.prog.info? 65).map (fun i => (i.zero, i.size, i.bytes)) = some (some (.agg #[.int .i64 0, .int .i64 0, .int .i64 0, .int .u64 0]), 4, 32) := by kernel_rfl
theorem size_F : (Tryz.prog.info? 65).map (·.size) = some 4 := by kernel_rfl
set_option maxHeartbeats 1000000 in
theorem copied_F {S : Nat → Prop} {w : World} {v : Value} {n : Nat} {cs : List Value} (h : rdAt S w v n cs) (hl : cs.length = n * 4) (h1 : ∀ u ∈ cs, u.oneCell' = true) (hn : n ≤ 100000) :
    Calls Tryz.prog 66 #[v] w (CpPost 65 n cs w) := by
  obtain ⟨a, c, rfl, h⟩ := h
  obtain ⟨zs, hzl, hmk⟩ := make_wide under_F info_F (by decide) n hn
  by_cases h0 : n = 0
  · subst h0
    obtain rfl : cs = [] := List.length_eq_zero_iff.1 (by omega)
    have hc := run_copy_noneF (P := Tryz.prog) (w.alloc (.cells ⟨zs⟩ 65)) 41 41 3 65 (some ⟨w.heap.size, 0, none⟩) a 0 0 0 c under_F (by rw [size_F]; rfl) rfl
    have E := Lib.hid (cp_none (T := 65) (zs := zs) (w := w) (by omega))
    have hmk0 : ∀ w : World, (Instr.makeSlice 41 (.int .i64 0) (.int .i64 0)).run Tryz.prog w = .ok (.slice (some ⟨w.heap.size, 0, none⟩) 0 0) (w.alloc (.cells ⟨zs⟩ 65)) := hmk
    clear hmk h hl h1 hzl
    go_enter Tryz.func66, Tryz.ntmps66
    go_wp2_with fail
    go_ret
    exact E.out
  · rcases h with h | ⟨b, o, rfl, -, hb, hc⟩
    · exact absurd h h0
    have r1 := rowAt.made w 65 zs
    have hsrc : ∀ j v, cs[j]? = some v → (w.alloc (.cells ⟨zs⟩ 65)).cell? ((⟨b, o, none⟩ : Addr).add j) = some v := fun j v hj => by
      rw [show ((⟨b, o, none⟩ : Addr).add j) = ⟨b, o + j, none⟩ by unfold Addr.add; split <;> simp_all]
      exact ((down_alloc (Below.refl w.heap.size w) (.cells ⟨zs⟩ 65)).cell (p := ⟨b, o + j, none⟩) hb).trans (hc j v hj)
    have hcp := run_copy_wideF (P := Tryz.prog) (w.alloc (.cells ⟨zs⟩ 65)) 41 41 3 65 w.heap.size 0 n n ⟨b, o, none⟩ n c zs 65 cs n 4 under_F size_F r1 (Nat.min_self n) hl.symm hsrc (by omega) h1
    obtain ⟨W, hW⟩ : ∃ W, (w.alloc (.cells ⟨zs⟩ 65)).setRow w.heap.size (splF zs 0 cs).toArray = W := ⟨_, rfl⟩
    rw [hW] at hcp
    have E := Lib.hid (cp_end (T := 65) (n := n) (cs := cs) (zs := zs) (w := w) (W := W) (Lib.hid hW.symm) (by omega))
    have n2 : (0 : Int) ≤ n := by omega
    clear hW hsrc hc hl h1 hzl r1 hb h0
    go_enter Tryz.func66, Tryz.ntmps66
    go_wp2_with fail
    go_ret
    exact E.out


theorem under_H : Tryz.prog.underlying 42 = some (.slice 63) := by kernel_rfl
theorem info_H : (Tryz.prog.info? 63).map (fun i => (i.zero, i.size, i.bytes)) = some (some (.agg #[.int .i64 0, .int .i64 0, .int .i64 0]), 3, 24) := by kernel_rfl
theorem size_H : (Tryz.prog.info? 63).map (·.size) = some 3 := by kernel_rfl
set_option maxHeartbeats 1000000 in
theorem copied_H {S : Nat → Prop} {w : World} {v : Value} {n : Nat} {cs : List Value} (h : rdAt S w v n cs) (hl : cs.length = n * 3) (h1 : ∀ u ∈ cs, u.oneCell' = true) (hn : n ≤ 100000) :
    Calls Tryz.prog 67 #[v] w (CpPost 63 n cs w) := by
  obtain ⟨a, c, rfl, h⟩ := h
  obtain ⟨zs, hzl, hmk⟩ := make_wide under_H info_H (by decide) n hn
  by_cases h0 : n = 0
  · subst h0
    obtain rfl : cs = [] := List.length_eq_zero_iff.1 (by omega)
    have hc := run_copy_noneF (P := Tryz.prog) (w.alloc (.cells ⟨zs⟩ 63)) 42 42 3 63 (some ⟨w.heap.size, 0, none⟩) a 0 0 0 c under_H (by rw [size_H]; rfl) rfl
    have E := Lib.hid (cp_none (T := 63) (zs := zs) (w := w) (by omega))
    have hmk0 : ∀ w : World, (Instr.makeSlice 42 (.int .i64 0) (.int .i64 0)).run Tryz.prog w = .ok (.slice (some ⟨w.heap.size, 0, none⟩) 0 0) (w.alloc (.cells ⟨zs⟩ 63)) := hmk
    clear hmk h hl h1 hzl
    go_enter Tryz.func67, Tryz.ntmps67
    go_wp2_with fail
    go_ret
    exact E.out
  · rcases h with h | ⟨b, o, rfl, -, hb, hc⟩
    · exact absurd h h0
    have r1 := rowAt.made w 63 zs
    have hsrc : ∀ j v, cs[j]? = some v → (w.alloc (.cells ⟨zs⟩ 63)).cell? ((⟨b, o, none⟩ : Addr).add j) = some v := fun j v hj => by
      rw [show ((⟨b, o, none⟩ : Addr).add j) = ⟨b, o + j, none⟩ by unfold Addr.add; split <;> simp_all]
      exact ((down_alloc (Below.refl w.heap.size w) (.cells ⟨zs⟩ 63)).cell (p := ⟨b, o + j, none⟩) hb).trans (hc j v hj)
    have hcp := run_copy_wideF (P := Tryz.prog) (w.alloc (.cells ⟨zs⟩ 63)) 42 42 3 63 w.heap.size 0 n n ⟨b, o, none⟩ n c zs 63 cs n 3 under_H size_H r1 (Nat.min_self n) hl.symm hsrc (by omega) h1
    obtain ⟨W, hW⟩ : ∃ W, (w.alloc (.cells ⟨zs⟩ 63)).setRow w.heap.size (splF zs 0 cs).toArray = W := ⟨_, rfl⟩
    rw [hW] at hcp
    have E := Lib.hid (cp_end (T := 63) (n := n) (cs := cs) (zs := zs) (w := w) (W := W) (Lib.hid hW.symm) (by omega))
    have n2 : (0 : Int) ≤ n := by omega
    clear hW hsrc hc hl h1 hzl r1 hb h0
    go_enter Tryz.func67, Tryz.ntmps67
    go_wp2_with fail
    go_ret
    exact E.out

end Go.Proofs.YtajkkinolpkfmaaGreatDoor

/-
  Package frame: a machine with lists of its own.
  Conditions: as each states.
-/
namespace Go.Proofs.YtajkkinolpkfmaaGreatDoor
set_option linter.unusedVariables false
set_option linter.unusedSimpArgs false
open Go.ChangeShapes Go.WideShapes Go.ChangeAt Go.RowKit
set_option maxRecDepth 100000

/-- What own tells: the machine's lists in three rows of its own. -/
def OwnAt (w w' : World) (g1 g2 g3 : Nat) (M : PMa) : Prop :=
  rowAt w' g1 43 (wdL M.st) ∧ rowAt w' g2 65 (frL M.fr) ∧ rowAt w' g3 63 (hdL M.hd) ∧ w.heap.size ≤ g1 ∧ w.heap.size ≤ g2 ∧ w.heap.size ≤ g3 ∧ g1 ≠ g2 ∧ g1 ≠ g3 ∧ g2 ≠ g3 ∧ Below w.heap.size w w'
def OwnPost (w : World) (M : PMa) (e : Ending) (w' : World) : Prop :=
  ∃ g1 g2 g3, e = .returned (maV M.z0 M.z1 M.z2 M.z3 (.slice (some ⟨g1, 0, none⟩) M.st.length M.st.length) (.slice (some ⟨g2, 0, none⟩) M.fr.length M.fr.length) (.slice (some ⟨g3, 0, none⟩) M.hd.length M.hd.length) M.state M.res M.code) ∧ OwnAt w w' g1 g2 g3 M

theorem cells10 {w : World} {b : Nat} {T : TypeId} {c0 c1 c2 c3 c4 c5 c6 c7 c8 c9 : Value} (h : rowAt w b T [c0, c1, c2, c3, c4, c5, c6, c7, c8, c9]) :
    w.cell? ⟨b, 0, none⟩ = some c0 ∧ w.cell? ⟨b, 1, none⟩ = some c1 ∧ w.cell? ⟨b, 2, none⟩ = some c2 ∧ w.cell? ⟨b, 3, none⟩ = some c3 ∧ w.cell? ⟨b, 4, none⟩ = some c4 ∧ w.cell? ⟨b, 5, none⟩ = some c5 ∧ w.cell? ⟨b, 6, none⟩ = some c6 ∧ w.cell? ⟨b, 7, none⟩ = some c7 ∧ w.cell? ⟨b, 8, none⟩ = some c8 ∧ w.cell? ⟨b, 9, none⟩ = some c9 :=
  ⟨h.cell 0, h.cell 1, h.cell 2, h.cell 3, h.cell 4, h.cell 5, h.cell 6, h.cell 7, h.cell 8, h.cell 9⟩
theorem frees10 {w : World} {b : Nat} {T : TypeId} {cs : List Value} (h : rowAt w b T cs) :
    w.frozen? ⟨b, 0, none⟩ = false ∧ w.frozen? ⟨b, 1, none⟩ = false ∧ w.frozen? ⟨b, 2, none⟩ = false ∧ w.frozen? ⟨b, 3, none⟩ = false ∧ w.frozen? ⟨b, 4, none⟩ = false ∧ w.frozen? ⟨b, 5, none⟩ = false ∧ w.frozen? ⟨b, 6, none⟩ = false ∧ w.frozen? ⟨b, 7, none⟩ = false ∧ w.frozen? ⟨b, 8, none⟩ = false ∧ w.frozen? ⟨b, 9, none⟩ = false :=
  ⟨h.free 0, h.free 1, h.free 2, h.free 3, h.free 4, h.free 5, h.free 6, h.free 7, h.free 8, h.free 9⟩
theorem Upon.set1 {S : Nat → Prop} {w W : World} (h : Upon S w W) {p : Addr} (hp : S p.block) (v : Value) : Upon S w (W.setCell p v) := h.trans (Upon.setCell p v hp) fun _ _ t => t
def OwnCut (w : World) (z0 z1 z2 z3 : Int) (st : List Int) (fr : List PFr) (hd : List PHd) (sta res cod : Int) (wx : World) : Prop :=
  ∃ g1 g2 g3, rowAt wx w.heap.size 45 [.int .i64 z0, .int .i64 z1, .int .i64 z2, .int .i64 z3, .slice (some ⟨g1, 0, none⟩) st.length st.length, .slice (some ⟨g2, 0, none⟩) fr.length fr.length, .slice (some ⟨g3, 0, none⟩) hd.length hd.length, .int .i64 sta, .int .u64 res, .int .i64 cod] ∧
      rowAt wx (w.heap.size + 1) 45 [.int .i64 0, .int .i64 0, .int .i64 0, .int .i64 0, .slice none 0 0, .slice none 0 0, .slice none 0 0, .int .i64 0, .int .u64 0, .int .i64 0] ∧ w.heap.size + 1 < g1 ∧ w.heap.size + 1 < g2 ∧ w.heap.size + 1 < g3 ∧ OwnAt w wx g1 g2 g3 ⟨z0, z1, z2, z3, st, fr, hd, sta, res, cod⟩
theorem own_close {w w3 : World} {g1 g2 g3 : Nat} {z0 z1 z2 z3 : Int} {st : List Int} {fr : List PFr} {hd : List PHd} {sta res cod : Int} {s f h : Value}
    (R1 : rowAt w3 w.heap.size 45 [.int .i64 z0, .int .i64 z1, .int .i64 z2, .int .i64 z3, s, f, h, .int .i64 sta, .int .u64 res, .int .i64 cod])
    (R2 : rowAt w3 (w.heap.size + 1) 45 [.int .i64 0, .int .i64 0, .int .i64 0, .int .i64 0, .slice none 0 0, .slice none 0 0, .slice none 0 0, .int .i64 0, .int .u64 0, .int .i64 0])
    (o1 : rowAt w3 g1 43 (wdL st)) (o2 : rowAt w3 g2 65 (frL fr)) (o3 : rowAt w3 g3 63 (hdL hd)) (l1 : w.heap.size + 1 < g1) (l2 : g1 < g2) (l3 : g2 < g3) (B : Below w.heap.size w w3) :
    OwnCut w z0 z1 z2 z3 st fr hd sta res cod (((w3.setCell ⟨w.heap.size, 4, none⟩ (.slice (some ⟨g1, 0, none⟩) st.length st.length)).setCell ⟨w.heap.size, 5, none⟩ (.slice (some ⟨g2, 0, none⟩) fr.length fr.length)).setCell ⟨w.heap.size, 6, none⟩ (.slice (some ⟨g3, 0, none⟩) hd.length hd.length)) := by
  refine ⟨g1, g2, g3, ((R1.set 4 _).set 5 _).set 6 _, ?_, l1, by omega, by omega, ?_, ?_, ?_, by omega, by omega, by omega, by omega, by omega, by omega, ?_⟩
  · exact ((R2.other _ _ (by simp)).other _ _ (by simp)).other _ _ (by simp)
  · exact ((o1.other _ _ (by simp; omega)).other _ _ (by simp; omega)).other _ _ (by simp; omega)
  · exact ((o2.other _ _ (by simp; omega)).other _ _ (by simp; omega)).other _ _ (by simp; omega)
  · exact ((o3.other _ _ (by simp; omega)).other _ _ (by simp; omega)).other _ _ (by simp; omega)
  · exact down_set (down_set (down_set B (by simp) _) (by simp) _) (by simp) _
theorem own_ret {w wx : World} {z0 z1 z2 z3 : Int} {st : List Int} {fr : List PFr} {hd : List PHd} {sta res cod : Int} {g1 g2 g3 : Nat} {W : World} (o : OwnAt w wx g1 g2 g3 ⟨z0, z1, z2, z3, st, fr, hd, sta, res, cod⟩)
    (l1 : w.heap.size + 1 < g1) (l2 : w.heap.size + 1 < g2) (l3 : w.heap.size + 1 < g3) (hu : Upon (fun k => k = w.heap.size + 1) wx W) :
    OwnPost w ⟨z0, z1, z2, z3, st, fr, hd, sta, res, cod⟩ (.returned (maV z0 z1 z2 z3 (.slice (some ⟨g1, 0, none⟩) st.length st.length) (.slice (some ⟨g2, 0, none⟩) fr.length fr.length) (.slice (some ⟨g3, 0, none⟩) hd.length hd.length) sta res cod)) W := by
  obtain ⟨o1, o2, o3, a1, a2, a3, e1, e2, e3, hb⟩ := o
  exact ⟨g1, g2, g3, rfl, o1.upon hu (by omega), o2.upon hu (by omega), o3.upon hu (by omega), a1, a2, a3, e1, e2, e3, hb.trans (hu.belowB hb.size (fun k hk => by omega))⟩
set_option maxHeartbeats 4000000 in
theorem own_any {S : Nat → Prop} {w : World} {s f h : Value} {M : PMa} (k : maAt S w s f h M) (hF : maF M) :
    Calls Tryz.prog 35 #[maV M.z0 M.z1 M.z2 M.z3 s f h M.state M.res M.code] w (OwnPost w M) := by
  obtain ⟨k1, k2, k3⟩ := k
  have K1 := Lib.hid k1
  have K2 := Lib.hid k2
  have K3 := Lib.hid k3
  obtain ⟨a1, c1, rfl⟩ := k1.slice
  obtain ⟨a2, c2, rfl⟩ := k2.slice
  obtain ⟨a3, c3, rfl⟩ := k3.slice
  have F1 := Lib.hid hF.n1
  have F2 := Lib.hid hF.n2
  have F3 := Lib.hid hF.n3
  clear k1 k2 k3 hF
  obtain ⟨z0, z1, z2, z3, st, fr, hd, sta, res, cod⟩ := M
  simp only at K1 K2 K3 F1 F2 F3 ⊢
  obtain ⟨W, hW⟩ : ∃ W, (w.alloc (.cells #[.int .i64 z0, .int .i64 z1, .int .i64 z2, .int .i64 z3, .slice a1 st.length c1, .slice a2 fr.length c2, .slice a3 hd.length c3, .int .i64 sta, .int .u64 res, .int .i64 cod] 45)).alloc (.cells #[.int .i64 0, .int .i64 0, .int .i64 0, .int .i64 0, .slice none 0 0, .slice none 0 0, .slice none 0 0, .int .i64 0, .int .u64 0, .int .i64 0] 45) = W := ⟨_, rfl⟩
  have BW := Lib.hid (show Below w.heap.size w W by rw [← hW]; exact down_alloc (down_alloc (Below.refl _ _) _) _)
  have r1 := rowAt.made w 45 [.int .i64 z0, .int .i64 z1, .int .i64 z2, .int .i64 z3, .slice a1 st.length c1, .slice a2 fr.length c2, .slice a3 hd.length c3, .int .i64 sta, .int .u64 res, .int .i64 cod]
  have r2 := rowAt.made_at (w := w.alloc (.cells #[.int .i64 z0, .int .i64 z1, .int .i64 z2, .int .i64 z3, .slice a1 st.length c1, .slice a2 fr.length c2, .slice a3 hd.length c3, .int .i64 sta, .int .u64 res, .int .i64 cod] 45)) (b := w.heap.size + 1) 45 [.int .i64 0, .int .i64 0, .int .i64 0, .int .i64 0, .slice none 0 0, .slice none 0 0, .slice none 0 0, .int .i64 0, .int .u64 0, .int .i64 0] (by simp)
  have R1 := Lib.hid (show rowAt W.drew w.heap.size 45 [.int .i64 z0, .int .i64 z1, .int .i64 z2, .int .i64 z3, .slice a1 st.length c1, .slice a2 fr.length c2, .slice a3 hd.length c3, .int .i64 sta, .int .u64 res, .int .i64 cod] by rw [← hW]; exact r1.alloc _)
  have R2 := Lib.hid (show rowAt W.drew (w.heap.size + 1) 45 [.int .i64 0, .int .i64 0, .int .i64 0, .int .i64 0, .slice none 0 0, .slice none 0 0, .slice none 0 0, .int .i64 0, .int .u64 0, .int .i64 0] by rw [← hW]; exact r2)
  have hsz : W.drew.heap.size = w.heap.size + 2 := by rw [← hW]; simp [World.drew, World.drewN]
  have HS := Lib.hid hsz
  have D1 := Lib.hid (K1.out.below (down_drew BW.out))
  clear r1 r2 hsz
  have d4 : W.cell? ⟨w.heap.size, 4, none⟩ = some (.slice a1 st.length c1) := (R1.out.cell 4).trans rfl
  have d5 : W.cell? ⟨w.heap.size, 5, none⟩ = some (.slice a2 fr.length c2) := (R1.out.cell 5).trans rfl
  have d6 : W.cell? ⟨w.heap.size, 6, none⟩ = some (.slice a3 hd.length c3) := (R1.out.cell 6).trans rfl
  go_enter Tryz.func35, Tryz.ntmps35
  go_upto_region 1 with fail
  go_cut [5] (fun _ wx => OwnCut w z0 z1 z2 z3 st fr hd sta res cod wx)
  case first =>
    go_region_with (first
      | (go_at_call 34
         refine (copied_W D1.out (wdL_length _) wdL_one F1.out).mono ?_
         rintro e w1 ⟨rfl, q1, b1⟩
         have C1 := Lib.hid (down_call (down_drew BW.out) b1)
         have D2 := Lib.hid (K2.out.below C1.out)
         have R1a := Lib.hid (R1.out.below b1 R1.out.lt)
         have R2a := Lib.hid (R2.out.below b1 R2.out.lt)
         have Q1 := Lib.hid q1
         have y5 : w1.cell? ⟨w.heap.size, 5, none⟩ = some (.slice a2 fr.length c2) := (R1a.out.cell 5).trans rfl
         have y6 : w1.cell? ⟨w.heap.size, 6, none⟩ = some (.slice a3 hd.length c3) := (R1a.out.cell 6).trans rfl
         have Z1 := Lib.hid b1.size
         clear b1 q1)
      | (go_at_call 66
         refine (copied_F D2.out (frL_length _) frL_one F2.out).mono ?_
         rintro e w2 ⟨rfl, q2, b2⟩
         have C2 := Lib.hid (down_call C1.out b2)
         have D3 := Lib.hid (K3.out.below C2.out)
         have R1b := Lib.hid (R1a.out.below b2 R1a.out.lt)
         have R2b := Lib.hid (R2a.out.below b2 R2a.out.lt)
         have Q1b := Lib.hid (Q1.out.below b2 Q1.out.lt)
         have L1 := Lib.hid Q1.out.lt
         have Q2 := Lib.hid q2
         have x6 : w2.cell? ⟨w.heap.size, 6, none⟩ = some (.slice a3 hd.length c3) := (R1b.out.cell 6).trans rfl
         clear b2 q2)
      | (go_at_call 67
         refine (copied_H D3.out (hdL_length _) hdL_one F3.out).mono ?_
         rintro e w3 ⟨rfl, q3, b3⟩
         have C3 := Lib.hid (down_call C2.out b3)
         have R1c := Lib.hid (R1b.out.below b3 R1b.out.lt)
         have R2c := Lib.hid (R2b.out.below b3 R2b.out.lt)
         have Q1c := Lib.hid (Q1b.out.below b3 Q1b.out.lt)
         have Q2c := Lib.hid (Q2.out.below b3 Q2.out.lt)
         have L2 := Lib.hid Q2.out.lt
         have Q3 := Lib.hid q3
         have u4 : w3.cell? ⟨w.heap.size, 4, none⟩ = some (.slice a1 st.length c1) := (R1c.out.cell 4).trans rfl
         have u5 : w3.cell? ⟨w.heap.size, 5, none⟩ = some (.slice a2 fr.length c2) := (R1c.out.cell 5).trans rfl
         have u6 : w3.cell? ⟨w.heap.size, 6, none⟩ = some (.slice a3 hd.length c3) := (R1c.out.cell 6).trans rfl
         have v4 := R1c.out.free 4
         have v5 := R1c.out.free 5
         have v6 := R1c.out.free 6
         have vl := R1c.out.lt
         clear b3 q3))
    all_goals
      go_wp2_with fail
      go_meet
      exact own_close R1c.out R2c.out Q1c.out Q2c.out Q3.out (by have := HS.out; simp only [World.drew, World.drewN] at this ⊢; omega) L1.out L2.out C3.out
  case rest =>
    obtain ⟨g1, g2, g3, r1, r2, l1, l2, l3, ho⟩ := hcut
    have HO := Lib.hid ho
    obtain ⟨e0, e1, e2, e3, e4, e5, e6, e7, e8, e9⟩ := cells10 r1
    obtain ⟨f0, f1, f2, f3, f4, f5, f6, f7, f8, f9⟩ := cells10 r2
    obtain ⟨p0, p1, p2, p3, p4, p5, p6, p7, p8, p9⟩ := frees10 r2
    have fl := r2.lt
    clear r1 r2 ho
    go_wp2_with fail
    refine bodyPost_ret (v := maV z0 z1 z2 z3 (.slice (some ⟨g1, 0, none⟩) st.length st.length) (.slice (some ⟨g2, 0, none⟩) fr.length fr.length) (.slice (some ⟨g3, 0, none⟩) hd.length hd.length) sta res cod) (by simp [results, Tryz.results35, go_sem, f0, f1, f2, f3, f4, f5, f6, f7, f8, f9]) rfl ?_
    refine own_ret HO.out l1 l2 l3 ?_
    iterate 10 refine Upon.set1 ?_ (by rfl) _
    exact Upon.refl _ _
end Go.Proofs.YtajkkinolpkfmaaGreatDoor
