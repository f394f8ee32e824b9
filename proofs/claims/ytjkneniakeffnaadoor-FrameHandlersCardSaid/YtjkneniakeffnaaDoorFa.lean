/-
  Package frame: machines as plain data, in memory; its copies of lists.
  Conditions: as each states.
-/
import Derived.Test.YtjkneniakeffnaaDoorCoM
import Derived.Test.YtjkneniakeffnaaDoorApp
import Derived.Test.YtjkneniakeffnaaDoorWord
import Derived.Test.YtjkneniakeffnaaDoorCoG
import Derived.Test.YtjkneniakeffnaaDoorShelf
import Derived.Laws.CopyRow
import Derived.Laws.CopyOwn
import Derived.RegionTactic
import Derived.BigRegion
import Derived.StillTailTactics
namespace Go.Proofs.YtjkneniakeffnaaDoor
open Go.ChangeShapes Go.WideShapes Go.ChangeAt Go.RowKit
set_option linter.unusedVariables false
set_option linter.unusedSimpArgs false
set_option maxRecDepth 100000

abbrev PFr := Int × Int × Int × Int
abbrev PHd := Int × Int × Int
def frC (f : PFr) : List Value := [.int .i64 f.1, .int .i64 f.2.1, .int .i64 f.2.2.1, .int .u64 f.2.2.2]
def hdC (h : PHd) : List Value := [.int .i64 h.1, .int .i64 h.2.1, .int .i64 h.2.2]
abbrev wdL (l : List Int) : List Value := l.map (Value.int .u64)
def frL (l : List PFr) : List Value := l.flatMap frC
def hdL (l : List PHd) : List Value := l.flatMap hdC
/-- A machine as plain data. -/
structure PMa where
  z0 : Int
  z1 : Int
  z2 : Int
  z3 : Int
  st : List Int
  fr : List PFr
  hd : List PHd
  state : Int
  res : Int
  code : Int
abbrev maV (z0 z1 z2 z3 : Int) (s f h : Value) (st r c : Int) : Value := .agg #[.int .i64 z0, .int .i64 z1, .int .i64 z2, .int .i64 z3, s, f, h, .int .i64 st, .int .u64 r, .int .i64 c]
theorem wdL_length (l : List Int) : (wdL l).length = l.length * 1 := by simp
theorem frL_length (l : List PFr) : (frL l).length = l.length * 4 := by
  induction l with
  | nil => rfl
  | cons x l ih => simp [frL, frC] at ih ⊢; omega
theorem hdL_length (l : List PHd) : (hdL l).length = l.length * 3 := by
  induction l with
  | nil => rfl
  | cons x l ih => simp [hdL, hdC] at ih ⊢; omega
theorem wdL_one {l : List Int} : ∀ u ∈ wdL l, u.oneCell' = true := by
  intro u hu
  obtain ⟨s, _, rfl⟩ := List.mem_map.1 hu
  rfl
theorem frL_one {l : List PFr} : ∀ u ∈ frL l, u.oneCell' = true := by
  intro u hu
  obtain ⟨s, _, hs⟩ := List.mem_flatMap.1 hu
  simp only [frC, List.mem_cons, List.not_mem_nil, or_false] at hs
  rcases hs with rfl | rfl | rfl | rfl <;> rfl
theorem hdL_one {l : List PHd} : ∀ u ∈ hdL l, u.oneCell' = true := by
  intro u hu
  obtain ⟨s, _, hs⟩ := List.mem_flatMap.1 hu
  simp only [hdC, List.mem_cons, List.not_mem_nil, or_false] at hs
  rcases hs with rfl | rfl | rfl <;> rfl

/-- The machine that reads as M; its lists in blocks that S has not. -/
def maAt (S : Nat → Prop) (w : World) (s f h : Value) (M : PMa) : Prop :=
  rdAt S w s M.st.length (wdL M.st) ∧ rdAt S w f M.fr.length (frL M.fr) ∧ rdAt S w h M.hd.length (hdL M.hd)
theorem maAt.upon {S T : Nat → Prop} {w w' : World} {s f h : Value} {M : PMa} (k : maAt S w s f h M) (hu : Upon T w w') (hT : ∀ k, k < w.heap.size → T k → S k) : maAt S w' s f h M :=
  ⟨k.1.upon hu hT, k.2.1.upon hu hT, k.2.2.upon hu hT⟩
theorem maAt.below {S : Nat → Prop} {w w' : World} {s f h : Value} {M : PMa} (k : maAt S w s f h M) (hb : Below w.heap.size w w') : maAt S w' s f h M := k.upon (upon_of_below hb) fun _ _ t => t.elim
theorem maAt.off {S T : Nat → Prop} {w : World} {s f h : Value} {M : PMa} (k : maAt S w s f h M) (hT : ∀ k, k < w.heap.size → T k → S k) : maAt T w s f h M :=
  ⟨k.1.off hT, k.2.1.off hT, k.2.2.off hT⟩
structure maF (M : PMa) : Prop where
  n1 : M.st.length ≤ 100000
  n2 : M.fr.length ≤ 100000
  n3 : M.hd.length ≤ 100000

/-! ## copies -/
def splF (cur : List Value) (off : Nat) (cs : List Value) : List Value := cur.take off ++ (cs ++ cur.drop (off + cs.length))
theorem run_copy_wideF {P : Program} (w : World) (dT sT ty elem : TypeId) (g o dLen dCap : Nat) (a : Addr) (sLen sCap : Nat) (cur : List Value) (t : TypeId) (cs : List Value) (m size : Nat)
    (hu : P.underlying dT = some (.slice elem)) (hs : (P.info? elem).map (·.size) = some size)
    (hg : rowAt w g t cur) (hm : Nat.min sLen dLen = m) (hn : m * size = cs.length)
    (hsrc : ∀ j v, cs[j]? = some v → w.cell? (a.add j) = some v) (hfit : o + cs.length ≤ cur.length) (h1 : ∀ v ∈ cs, v.oneCell' = true) :
    (Builtin.copy_ #[dT, sT] ty #[.slice (some ⟨g, o, none⟩) dLen dCap, .slice (some a) sLen sCap]).run P w = .ok (.int .i64 m) (w.setRow g (splF cur o cs).toArray) := by
  have hl := run_loadCells_list (P := P) w a cs hsrc
  have hst := run_storeCells_at P g o t cs 0 cur.toArray w hg (by simpa using hfit) h1
  cases hq : P.info? elem with
  | none => simp [hq] at hs
  | some i =>
    have hi : i.size = size := by simpa [hq] using hs
    simp [Builtin.copy_, run_underlying hu, Builtin.lenOf, Builtin.firstCells, sizeOf, typeInfo, hq, hi, hm, hn, hl, hst, splF, goInt]
theorem run_copy_noneF {P : Program} (w : World) (dT sT ty elem : TypeId) (d a : Option Addr) (dLen dCap sLen sCap : Nat) (hu : P.underlying dT = some (.slice elem)) (hs : ((P.info? elem).map (·.size)).isSome = true) (hn : Nat.min sLen dLen = 0) :
    (Builtin.copy_ #[dT, sT] ty #[.slice d dLen dCap, .slice a sLen sCap]).run P w = .ok (.int .i64 0) w := by
  cases hq : P.info? elem with
  | none => simp [hq] at hs
  | some i =>
    have hl : ∀ (x : Addr), (loadCells x 0).run P w = .ok #[] w := fun x => by simpa using run_loadCells_list (P := P) w x [] (by simp)
    cases d <;> cases a <;> simp [Builtin.copy_, run_underlying hu, Builtin.lenOf, Builtin.firstCells, sizeOf, typeInfo, hq, hn, storeCells, hl, goInt]
theorem make_wide {P : Program} {t e : TypeId} {z : Value} {C B : Nat} (ht : P.underlying t = some (.slice e)) (hi : (P.info? e).map (fun i => (i.zero, i.size, i.bytes)) = some (some z, C, B)) (hB : B ≤ 64) (n : Nat) (hn : n ≤ 100000) :
    ∃ zs : List Value, zs.length = n * C ∧ ∀ w : World, (Instr.makeSlice t (.int .i64 (n : Int)) (.int .i64 (n : Int))).run P w = .ok (.slice (some ⟨w.heap.size, 0, none⟩) n n) (w.alloc (.cells ⟨zs⟩ e)) := by
  obtain ⟨i, hi, hz0, hz1, hz2⟩ := info_parts hi
  have h1 : (i.bytes : Int) * (n : Int) ≤ 64 * 100000 := by
    have : i.bytes * n ≤ 64 * 100000 := Nat.mul_le_mul (by omega) hn
    omega
  refine ⟨(madeCells z.cells (n * C)).toList, by rw [Array.length_toList, size_madeCells], fun w => ?_⟩
  have hr := run_make (P := P) w t e i _ ht hi hz0 .i64 .i64 n n (by omega) (by omega) (by omega) (by omega)
  simp only [Int.toNat_natCast] at hr
  rw [hr, hz1]
theorem rowAt.setRowF {w : World} {g : Nat} {t : TypeId} {cur cs : List Value} (h : rowAt w g t cur) : rowAt (w.setRow g cs.toArray) g t cs := setRow_heap w g _ _ t _ h
theorem upon_setRowF (w : World) (g : Nat) (cs : Array Value) : Upon (fun k => k = g) w (w.setRow g cs) :=
  ⟨rfl, rfl, rfl, by simp [World.setRow], fun k _ hs => setRow_other w g k cs fun e => hs e⟩

def CpPost (T : TypeId) (n : Nat) (cs : List Value) (w : World) (e : Ending) (w' : World) : Prop :=
  e = .returned (.slice (some ⟨w.heap.size, 0, none⟩) n n) ∧ rowAt w' w.heap.size T cs ∧ Below w.heap.size w w'
theorem cp_end {T : TypeId} {n : Nat} {cs zs : List Value} {w W : World} (hW : Hid (W = (w.alloc (.cells ⟨zs⟩ T)).setRow w.heap.size (splF zs 0 cs).toArray)) (hl : zs.length = cs.length) :
    CpPost T n cs w (.returned (.slice (some ⟨w.heap.size, 0, none⟩) n n)) W := by
  have hW := hW.out
  subst hW
  have e : splF zs 0 cs = cs := by unfold splF; rw [List.drop_of_length_le (by omega)]; simp
  rw [e]
  have r := rowAt.made w T zs
  exact ⟨rfl, r.setRowF, (down_alloc (Below.refl _ _) _).trans ((upon_setRowF _ _ _).belowB (by simp) (fun k e => by omega))⟩
theorem cp_none {T : TypeId} {zs : List Value} {w : World} (hl : zs.length = 0) : CpPost T 0 [] w (.returned (.slice (some ⟨w.heap.size, 0, none⟩) 0 0)) (w.alloc (.cells ⟨zs⟩ T)) := by
  obtain rfl := List.length_eq_zero_iff.1 hl
  exact ⟨rfl, rowAt.made w T [], down_alloc (Below.refl _ _) _⟩


theorem under_W : Tryd.prog.underlying 31 = some (.slice 24) := by kernel_rfl
theorem info_W : (Tryd.prog.info? 24).map (fun i => (i.zero, i.size, i.bytes)) = some (some (.int .u64 0), 1, 8) := by kernel_rfl
theorem size_W : (Tryd.prog.info? 24).map (·.size) = some 1 := by kernel_rfl
set_option maxHeartbeats 1000000 in
theorem copied_W {S : Nat → Prop} {w : World} {v : Value} {n : Nat} {cs : List Value} (h : rdAt S w v n cs) (hl : cs.length = n * 1) (h1 : ∀ u ∈ cs, u.oneCell' = true) (hn : n ≤ 100000) :
    Calls Tryd.prog 19 #[v] w (CpPost 24 n cs w) := by
  obtain ⟨a, c, rfl, h⟩ := h
  obtain ⟨zs, hzl, hmk⟩ := make_wide under_W info_W (by decide) n hn
  by_cases h0 : n = 0
  · subst h0
    obtain rfl : cs = [] := List.length_eq_zero_iff.1 (by omega)
    have hc := run_copy_noneF (P := Tryd.prog) (w.alloc (.cells ⟨zs⟩ 24)) 31 31 3 24 (some ⟨w.heap.size, 0, none⟩) a 0 0 0 c under_W (by rw [size_W]; rfl) rfl
    have E := Lib.hid (cp_none (T := 24) (zs := zs) (w := w) (by omega))
    have hmk0 : ∀ w : World, (Instr.makeSlice 31 (.int .i64 0) (.int .i64 0)).run Tryd.prog w = .ok (.slice (some ⟨w.heap.size, 0, none⟩) 0 0) (w.alloc (.cells ⟨zs⟩ 24)) := hmk
    clear hmk h hl h1 hzl
    go_enter Tryd.func19, Tryd.ntmps19
    go_wp2_with fail
    go_ret
    exact E.out
  · rcases h with h | ⟨b, o, rfl, -, hb, hc⟩
    · exact absurd h h0
    have r1 := rowAt.made w 24 zs
    have hsrc : ∀ j v, cs[j]? = some v → (w.alloc (.cells ⟨zs⟩ 24)).cell? ((⟨b, o, none⟩ : Addr).add j) = some v := fun j v hj => by
      rw [show ((⟨b, o, none⟩ : Addr).add j) = ⟨b, o + j, none⟩ by unfold Addr.add; split <;> simp_all]
      exact ((down_alloc (Below.refl w.heap.size w) (.cells ⟨zs⟩ 24)).cell (p := ⟨b, o + j, none⟩) hb).trans (hc j v hj)
    have hcp := run_copy_wideF (P := Tryd.prog) (w.alloc (.cells ⟨zs⟩ 24)) 31 31 3 24 w.heap.size 0 n n ⟨b, o, none⟩ n c zs 24 cs n 1 under_W size_W r1 (Nat.min_self n) hl.symm hsrc (by omega) h1
    obtain ⟨W, hW⟩ : ∃ W, (w.alloc (.cells ⟨zs⟩ 24)).setRow w.heap.size (splF zs 0 cs).toArray = W := ⟨_, rfl⟩
    rw [hW] at hcp
    have E := Lib.hid (cp_end (T := 24) (n := n) (cs := cs) (zs := zs) (w := w) (W := W) (Lib.hid hW.symm) (by omega))
    have n2 : (0 : Int) ≤ n := by omega
    clear hW hsrc hc hl h1 hzl r1 hb h0
    go_enter Tryd.func19, Tryd.ntmps19
    go_wp2_with fail
    go_ret
    exact E.out


theorem under_F : Tryd.prog.underlying 28 = some (.slice 27) := by kernel_rfl
theorem info_F : (Tryd.prog.info? 27).map (fun i => (i.zero, i.size, i.bytes)) = some (some (.agg #[.int .i64 0, .int .i64 0, .int .i64 0, .int .u64 0]), 4, 32) := by kernel_rfl
theorem size_F : (Tryd.prog.info? 27).map (·.size) = some 4 := by kernel_rfl
set_option maxHeartbeats 1000000 in
theorem copied_F {S : Nat → Prop} {w : World} {v : Value} {n : Nat} {cs : List Value} (h : rdAt S w v n cs) (hl : cs.length = n * 4) (h1 : ∀ u ∈ cs, u.oneCell' = true) (hn : n ≤ 100000) :
    Calls Tryd.prog 20 #[v] w (CpPost 27 n cs w) := by
  obtain ⟨a, c, rfl, h⟩ := h
  obtain ⟨zs, hzl, hmk⟩ := make_wide under_F info_F (by decide) n hn
  by_cases h0 : n = 0
  · subst h0
    obtain rfl : cs = [] := List.length_eq_zero_iff.1 (by omega)
    have hc := run_copy_noneF (P := Tryd.prog) (w.alloc (.cells ⟨zs⟩ 27)) 28 28 3 27 (some ⟨w.heap.size, 0, none⟩) a 0 0 0 c under_F (by rw [size_F]; rfl) rfl
    have E := Lib.hid (cp_none (T := 27) (zs := zs) (w := w) (by omega))
    have hmk0 : ∀ w : World, (Instr.makeSlice 28 (.int .i64 0) (.int .i64 0)).run Tryd.prog w = .ok (.slice (some ⟨w.heap.size, 0, none⟩) 0 0) (w.alloc (.cells ⟨zs⟩ 27)) := hmk
    clear hmk h hl h1 hzl
    go_enter Tryd.func20, Tryd.ntmps20
    go_wp2_with fail
    go_ret
    exact E.out
  · rcases h with h | ⟨b, o, rfl, -, hb, hc⟩
    · exact absurd h h0
    have r1 := rowAt.made w 27 zs
    have hsrc : ∀ j v, cs[j]? = some v → (w.alloc (.cells ⟨zs⟩ 27)).cell? ((⟨b, o, none⟩ : Addr).add j) = some v := fun j v hj => by
      rw [show ((⟨b, o, none⟩ : Addr).add j) = ⟨b, o + j, none⟩ by unfold Addr.add; split <;> simp_all]
      exact ((down_alloc (Below.refl w.heap.size w) (.cells ⟨zs⟩ 27)).cell (p := ⟨b, o + j, none⟩) hb).trans (hc j v hj)
    have hcp := run_copy_wideF (P := Tryd.prog) (w.alloc (.cells ⟨zs⟩ 27)) 28 28 3 27 w.heap.size 0 n n ⟨b, o, none⟩ n c zs 27 cs n 4 under_F size_F r1 (Nat.min_self n) hl.symm hsrc (by omega) h1
    obtain ⟨W, hW⟩ : ∃ W, (w.alloc (.cells ⟨zs⟩ 27)).setRow w.heap.size (splF zs 0 cs).toArray = W := ⟨_, rfl⟩
    rw [hW] at hcp
    have E := Lib.hid (cp_end (T := 27) (n := n) (cs := cs) (zs := zs) (w := w) (W := W) (Lib.hid hW.symm) (by omega))
    have n2 : (0 : Int) ≤ n := by omega
    clear hW hsrc hc hl h1 hzl r1 hb h0
    go_enter Tryd.func20, Tryd.ntmps20
    go_wp2_with fail
    go_ret
    exact E.out


theorem under_H : Tryd.prog.underlying 32 = some (.slice 36) := by kernel_rfl
theorem info_H : (Tryd.prog.info? 36).map (fun i => (i.zero, i.size, i.bytes)) = some (some (.agg #[.int .i64 0, .int .i64 0, .int .i64 0]), 3, 24) := by kernel_rfl
theorem size_H : (Tryd.prog.info? 36).map (·.size) = some 3 := by kernel_rfl
set_option maxHeartbeats 1000000 in
theorem copied_H {S : Nat → Prop} {w : World} {v : Value} {n : Nat} {cs : List Value} (h : rdAt S w v n cs) (hl : cs.length = n * 3) (h1 : ∀ u ∈ cs, u.oneCell' = true) (hn : n ≤ 100000) :
    Calls Tryd.prog 21 #[v] w (CpPost 36 n cs w) := by
  obtain ⟨a, c, rfl, h⟩ := h
  obtain ⟨zs, hzl, hmk⟩ := make_wide under_H info_H (by decide) n hn
  by_cases h0 : n = 0
  · subst h0
    obtain rfl : cs = [] := List.length_eq_zero_iff.1 (by omega)
    have hc := run_copy_noneF (P := Tryd.prog) (w.alloc (.cells ⟨zs⟩ 36)) 32 32 3 36 (some ⟨w.heap.size, 0, none⟩) a 0 0 0 c under_H (by rw [size_H]; rfl) rfl
    have E := Lib.hid (cp_none (T := 36) (zs := zs) (w := w) (by omega))
    have hmk0 : ∀ w : World, (Instr.makeSlice 32 (.int .i64 0) (.int .i64 0)).run Tryd.prog w = .ok (.slice (some ⟨w.heap.size, 0, none⟩) 0 0) (w.alloc (.cells ⟨zs⟩ 36)) := hmk
    clear hmk h hl h1 hzl
    go_enter Tryd.func21, Tryd.ntmps21
    go_wp2_with fail
    go_ret
    exact E.out
  · rcases h with h | ⟨b, o, rfl, -, hb, hc⟩
    · exact absurd h h0
    have r1 := rowAt.made w 36 zs
    have hsrc : ∀ j v, cs[j]? = some v → (w.alloc (.cells ⟨zs⟩ 36)).cell? ((⟨b, o, none⟩ : Addr).add j) = some v := fun j v hj => by
      rw [show ((⟨b, o, none⟩ : Addr).add j) = ⟨b, o + j, none⟩ by unfold Addr.add; split <;> simp_all]
      exact ((down_alloc (Below.refl w.heap.size w) (.cells ⟨zs⟩ 36)).cell (p := ⟨b, o + j, none⟩) hb).trans (hc j v hj)
    have hcp := run_copy_wideF (P := Tryd.prog) (w.alloc (.cells ⟨zs⟩ 36)) 32 32 3 36 w.heap.size 0 n n ⟨b, o, none⟩ n c zs 36 cs n 3 under_H size_H r1 (Nat.min_self n) hl.symm hsrc (by omega) h1
    obtain ⟨W, hW⟩ : ∃ W, (w.alloc (.cells ⟨zs⟩ 36)).setRow w.heap.size (splF zs 0 cs).toArray = W := ⟨_, rfl⟩
    rw [hW] at hcp
    have E := Lib.hid (cp_end (T := 36) (n := n) (cs := cs) (zs := zs) (w := w) (W := W) (Lib.hid hW.symm) (by omega))
    have n2 : (0 : Int) ≤ n := by omega
    clear hW hsrc hc hl h1 hzl r1 hb h0
    go_enter Tryd.func21, Tryd.ntmps21
    go_wp2_with fail
    go_ret
    exact E.out

end Go.Proofs.YtjkneniakeffnaaDoor
