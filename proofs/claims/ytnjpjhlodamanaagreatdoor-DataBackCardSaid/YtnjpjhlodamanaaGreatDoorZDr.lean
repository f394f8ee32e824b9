/-
  Package data: what goes out ('Out').
  Conditions: as each states.
-/
import Derived.Test.YtnjpjhlodamanaaGreatDoorZApp
import Derived.Deep.DeepCutAuto
import Derived.Deep.CutBlock
import Derived.Deep.RegionHeld3
import Derived.Test.YtnjpjhlodamanaaGreatDoorObX
import Derived.Test.YtnjpjhlodamanaaGreatDoorShelf
import Derived.Laws.CopyRow
import Derived.Laws.CopyOwn
import Derived.RegionTactic
import Derived.BigRegion
import Derived.StillTailTactics
import Derived.Test.YtnjpjhlodamanaaGreatDoorObY
import Derived.Test.YtnjpjhlodamanaaGreatDoorObjs
namespace Go.Proofs.YtnjpjhlodamanaaGreatDoor
set_option linter.unusedVariables false
set_option linter.unusedSimpArgs false
open Go.ChangeShapes Go.WideShapes Go.ChangeAt Go.RowKit
set_option maxRecDepth 100000

def lenV : Value → Nat
  | .slice _ n _ => n
  | _ => 0
theorem grown_upon {w w' : World} {row : Option Nat} (h : w.grownBy w' row) : Upon (fun k => row = some k) w w' := Upon.grown h fun k e => e

/-- slices.Reverse over a row of one's own, nil too. -/
def RevO (B : Nat) (v : Value) (xs : List Int) (w : World) (e : Ending) (w' : World) : Prop :=
  e = .returned (.tuple #[]) ∧ w'.ownsRow B 42 1 v xs.length (wordsL xs.reverse) ∧ Upon (fun k => v.ownBlock = some k) w w'
def RevN (w : World) (e : Ending) (w' : World) : Prop := e = .returned (.tuple #[]) ∧ w' = w
theorem reverse_nil (w : World) : Calls Tryz.prog 40 #[.slice none 0 0] w (RevN w) := by
  go_enter Tryz.func40, Tryz.ntmps40
  go_wp2_with fail
  go_loopw [2, 3] (fun i j wr => i = .int .i64 0 ∧ j = .int .i64 (-1) ∧ wr = w) (fun _ _ _ => 0)
  case atStart => exact ⟨rfl, by go_num, rfl⟩
  obtain ⟨rfl, rfl, rfl⟩ := hrel
  go_wp2_with fail
  refine bodyPost_ret (v := .tuple #[]) (by simp [results, Tryz.results40, go_sem]) rfl ⟨rfl, rfl⟩
theorem reverse_own {w : World} {B : Nat} {v : Value} {xs : List Int} (h : w.ownsRow B 42 1 v xs.length (wordsL xs)) (hl : xs.length ≤ 1000) :
    Calls Tryz.prog 40 #[v] w (RevO B v xs w) := by
  rcases owns_parts h with ⟨rfl, h1, h2⟩ | ⟨g, cap, rest, rfl, hg, hr, e1, e2, e3, e4⟩
  · have hx : xs = [] := List.length_eq_zero_iff.1 h1
    subst hx
    refine (reverse_nil w).mono ?_
    rintro e w' ⟨rfl, rfl⟩
    exact ⟨rfl, h, Upon.refl _ _⟩
  · refine (reverse_any hr hl).mono ?_
    rintro e w' ⟨rfl, hr', hu⟩
    refine ⟨rfl, ?_, hu.mono fun k _ e => by rw [e]; rfl⟩
    exact owns_mk hr' hg (by simp) (by simpa using e2) e3 e4

/-! ## A list in an array: a slice from its beginning on, appended to within it -/
def roomA (w : World) (g : Nat) (T : TypeId) (size n : Nat) (xs : List Value) : Prop := ∃ rest, rowAt w g T (xs ++ rest) ∧ xs.length = n * size ∧ xs.length + rest.length = 100 * size
section
variable {P : Program}
theorem run_append_in (w : World) (t ty e : TypeId) (i : TypeInfo) (size : Nat) (ht : P.underlying t = some (.slice e)) (hi : P.info? e = some i) (hsize : i.size = size)
    {g : Nat} {T : TypeId} {n : Nat} {xs : List Value} (h : roomA w g T size n xs) (xa : Option Addr) (m c : Nat) (news : List Value) (hl : news.length = m * size) (hsrc : m = 0 ∨ ∃ ad, xa = some ad ∧ ∀ j u, news[j]? = some u → w.cell? (ad.add j) = some u) (h1 : ∀ u ∈ news, u.oneCell' = true)
    (hroom : n + m ≤ 100) :
    ∃ w', (Builtin.append_ #[t, t] ty #[.slice (some ⟨g, 0, none⟩) n 100, .slice xa m c]).run P w = .ok (.slice (some ⟨g, 0, none⟩) (n + m) 100) w' ∧ roomA w' g T size (n + m) (xs ++ news) ∧ Upon (fun k => k = g) w w' := by
  subst hsize
  obtain ⟨rest, hr, e1, e2⟩ := h
  by_cases h0 : m = 0
  · subst h0
    have hn : news = [] := List.length_eq_zero_iff.1 (by simpa using hl)
    subst hn
    have hf : (Builtin.firstCells i.size 0 (.slice xa 0 c)).run P w = .ok #[] w := by
      cases xa with
      | none => simp [Builtin.firstCells]
      | some b => exact run_firstCells_some w i.size 0 b 0 c [] (by simp) (by simp)
    refine ⟨w, ?_, ⟨rest, by simpa using hr, by simpa using e1, by simpa using e2⟩, Upon.refl _ _⟩
    have hn : n ≤ 100 := by omega
    simp [Builtin.append_, run_underlying ht, sizeOf, typeInfo, hi, Builtin.lenOf, hf, hn, storeCells]
  · obtain ⟨ad, rfl, hc⟩ := hsrc.resolve_left h0
    have hfit : n * i.size + news.length ≤ (xs ++ rest).length := by
      rw [List.length_append, e2, hl, ← Nat.add_mul]
      exact Nat.mul_le_mul_right _ hroom
    have hf := run_firstCells_some (P := P) w i.size m ad m c news hl hc
    have hst := run_storeCells_at P g (n * i.size) T news 0 ⟨xs ++ rest⟩ w hr (by simpa using hfit) h1
    simp only [Nat.add_zero] at hst
    refine ⟨w.setRow g ((xs ++ rest).take (n * i.size) ++ news ++ (xs ++ rest).drop (n * i.size + news.length)).toArray, by simp [Builtin.append_, run_underlying ht, sizeOf, typeInfo, hi, Builtin.lenOf, hroom, hf, Addr.add_lit, hst], ?_, ⟨rfl, rfl, rfl, by simp [World.setRow], fun k _ hk => setRow_other w g k _ (fun e => hk e)⟩⟩
    refine ⟨rest.drop news.length, ?_, by rw [List.length_append, e1, hl, Nat.add_mul], ?_⟩
    · have hs := setRow_heap w g _ ((xs ++ rest).take (n * i.size) ++ news ++ (xs ++ rest).drop (n * i.size + news.length)).toArray T _ hr
      unfold rowAt
      rw [hs]
      congr 2
      rw [← e1, List.take_left, List.drop_append]
      simp
    · rw [List.length_append, List.length_drop]
      rw [List.length_append, e2] at hfit
      omega
theorem wpList_append_in {w : World} {ops : Array Oper} {rest : List Oper} {o : Oper} {a : Act} {Q : Exit → Act → World → Prop} (hgd : o.guard = none) (s x : Operand) (t : TypeId)
    (ho : o.op = .call { callee := .builtin .append, args := #[s, x], argTypes := #[t, t] })
    (e : TypeId) (i : TypeInfo) (size : Nat) (ht : P.underlying t = some (.slice e)) (hi : P.info? e = some i) (hsize : i.size = size)
    {g : Nat} {T : TypeId} {n : Nat} {xs : List Value} (h : roomA w g T size n xs) (hs : a.eval s = .slice (some ⟨g, 0, none⟩) n 100)
    (xa : Option Addr) (m c : Nat) (news : List Value) (hx : a.eval x = .slice xa m c) (hl : news.length = m * size) (hsrc : m = 0 ∨ ∃ ad, xa = some ad ∧ ∀ j u, news[j]? = some u → w.cell? (ad.add j) = some u) (h1 : ∀ u ∈ news, u.oneCell' = true)
    (hroom : n + m ≤ 100)
    (hk : ∀ w', roomA w' g T size (n + m) (xs ++ news) → Upon (fun k => k = g) w w' → wpList P ops Q rest (a.put o.dst (.slice (some ⟨g, 0, none⟩) (n + m) 100)) w') : wpList P ops Q (o :: rest) a w :=
  wpList_plain hgd fun K hK => by
    obtain ⟨w', hr, h2, h3⟩ := run_append_in (P := P) w t o.type e i size ht hi hsize h xa m c news hl hsrc h1 hroom
    unfold Oper.wp execOp
    simp only [ho, resolve, invoke, builtin, Sem.run_bind, Sem.run_pure, Result.andThen_ok, List.map_toArray, List.map_cons, List.map_nil, hs, hx, hr]
    exact hK _ _ (hk w' h2 h3)
end
theorem roomA.below {w w' : World} {g : Nat} {T : TypeId} {size n : Nat} {xs : List Value} (h : roomA w g T size n xs) (hb : Below w.heap.size w w') : roomA w' g T size n xs := by
  obtain ⟨rest, hr, e1, e2⟩ := h
  exact ⟨rest, hr.below hb hr.lt, e1, e2⟩
theorem roomA.lt {w : World} {g : Nat} {T : TypeId} {size n : Nat} {xs : List Value} (h : roomA w g T size n xs) : g < w.heap.size := by
  obtain ⟨rest, hr, e1, e2⟩ := h
  exact hr.lt
theorem roomA.upon {S : Nat → Prop} {w w' : World} {g : Nat} {T : TypeId} {size n : Nat} {xs : List Value} (h : roomA w g T size n xs) (hu : Upon S w w') (hS : ¬ S g) : roomA w' g T size n xs := by
  obtain ⟨rest, hr, e1, e2⟩ := h
  exact ⟨rest, hr.upon hu hS, e1, e2⟩
/-- The last one is taken off. -/
theorem roomA.pop {w : World} {g : Nat} {T : TypeId} {size n : Nat} {xs ys : List Value} (h : roomA w g T size (n + 1) (xs ++ ys)) (hy : ys.length = size) : roomA w g T size n xs ∧ ∀ j u, ys[j]? = some u → w.cell? ⟨g, n * size + j, none⟩ = some u := by
  obtain ⟨rest, hr, e1, e2⟩ := h
  rw [List.length_append, hy, Nat.add_mul, Nat.one_mul] at e1
  refine ⟨⟨ys ++ rest, by rwa [List.append_assoc] at hr, by omega, by rw [List.length_append] at e2 ⊢; omega⟩, fun j u hj => ?_⟩
  rw [hr.cell, List.append_assoc, List.getElem?_append_right (by omega), show n * size + j - xs.length = j by omega, List.getElem?_append_left (List.getElem?_eq_some_iff.1 hj).1]
  exact hj

/-! ## Out's memory -/
structure OutM (w : World) (hv : List Value) (g : Nat) (vm : Value) (done : List PCe) (ws : List Int) (wr : World) : Prop where
  b : Below w.heap.size w wr
  hp : rowAt wr w.heap.size 24 hv
  m : wr.ownsRow (w.heap.size + 1) 51 4 vm done.length (ceL done)
  t : roomA wr g 88 1 ws.length (wordsL ws.reverse)
  gl : w.heap.size < g
  apart : vm.ownBlock ≠ some g
section
variable {w : World} {hv : List Value} {g : Nat} {vm : Value} {done : List PCe} {ws : List Int} {wr wr' : World}
theorem OutM.below (h : OutM w hv g vm done ws wr) (hb : Below wr.heap.size wr wr') : OutM w hv g vm done ws wr' :=
  ⟨bl_call h.b hb, h.hp.below hb h.hp.lt, owns_below h.m hb (fun g hg => (h.m.lt g hg).2), h.t.below hb, h.gl, h.apart⟩
/-- A cell is appended. -/
theorem OutM.app (h : OutM w hv g vm done ws wr) {v' : Value} {n : Nat} {c : PCe} (ho : wr'.ownsRow (w.heap.size + 1) 51 4 v' n (ceL done ++ ceC c)) (hn : n = done.length + 1) (hg : wr.grownBy wr' vm.ownBlock) (hb : v'.ownBlock = vm.ownBlock ∨ v'.ownBlock = some wr.heap.size) :
    OutM w hv g v' (done ++ [c]) ws wr' := by
  have hu := grown_upon hg
  have hlm : ∀ g, vm.ownBlock = some g → w.heap.size + 1 ≤ g := fun g e => (h.m.lt g e).1
  refine ⟨h.b.trans (hu.belowB (Nat.le_of_lt h.hp.lt) fun k e => by have := hlm k e; omega), h.hp.upon hu fun e => by have := hlm _ e; omega, ?_, h.t.upon hu h.apart, h.gl, ?_⟩
  · rw [ceL_app, List.length_append]
    subst hn
    have e : ceL [c] = ceC c := by simp [ceL]
    rw [e]
    exact ho
  · intro e
    rcases hb with hb | hb
    · exact h.apart (by rw [← hb]; exact e)
    · rw [hb] at e
      cases e
      have := h.t.lt
      omega
/-- What is still to be told turns. -/
theorem OutM.todo (h : OutM w hv g vm done ws wr) {n : Nat} {us : List Int} (ho : roomA wr' g 88 1 n (wordsL us.reverse)) (hn : n = us.length) (hu : Upon (fun k => k = g) wr wr') : OutM w hv g vm done us wr' := by
  subst hn
  refine ⟨h.b.trans (hu.belowB (Nat.le_of_lt h.hp.lt) fun k e => by have := h.gl; omega), h.hp.upon hu fun e => by have := h.gl; omega, owns_upon h.m hu fun k hk e => h.apart (by rw [hk, e]), ho, h.gl, h.apart⟩
/-- A row of one's own that is neither is written. -/
theorem OutM.side (h : OutM w hv g vm done ws wr) {S : Nat → Prop} (hu : Upon S wr wr') (hS : ∀ k, S k → w.heap.size < k ∧ k ≠ g ∧ vm.ownBlock ≠ some k) : OutM w hv g vm done ws wr' :=
  ⟨h.b.trans (hu.belowB (Nat.le_of_lt h.hp.lt) fun k e => by have := (hS k e).1; omega), h.hp.upon hu fun e => by have := (hS _ e).1; omega, owns_upon h.m hu fun k hk e => (hS k e).2.2 hk, h.t.upon hu fun e => (hS _ e).2.1 rfl, h.gl, h.apart⟩
end
end Go.Proofs.YtnjpjhlodamanaaGreatDoor

/-
  Package data: what goes out ('Out'), the walk.
  Conditions: as each states.
-/
namespace Go.Proofs.YtnjpjhlodamanaaGreatDoor
set_option linter.unusedVariables false
set_option linter.unusedSimpArgs false
open Go.ChangeShapes Go.WideShapes Go.ChangeAt Go.RowKit
set_option maxRecDepth 100000

theorem look_fit {first : Int} {obs : List Ob} {x : Int} {c : PCe} {fs : List Int} (hok : AllOk obs) (h : lookW first obs x = some (c, fs)) : (∀ y ∈ fs, fitW y) ∧ fs.length ≤ 8 := by
  unfold lookW at h
  split at h
  · cases h; exact ⟨fun y hy => (by cases hy), by simp⟩
  · split at h
    · cases h
    · split at h
      · cases h
      · rename_i o ho
        have hm := hok o (objAt_mem _ _ _ ho)
        split at h
        · rename_i hk
          cases h
          refine ⟨hm.2, ?_⟩
          have := (Ob.may_split hm.1).2
          unfold mayH Ob.size sizeH at this
          rw [decide_eq_true_eq] at this
          rw [if_neg (by omega)] at this
          omega
        · split at h
          · cases h; exact ⟨fun y hy => (by cases hy), by simp⟩
          · cases h
theorem outP_next {first : Int} {obs : List Ob} {n : Nat} {x : Int} {r fs : List Int} {c : PCe} (h : lookW first obs x = some (c, fs)) (done : List PCe) :
    (outP first obs (n + 1) (x :: r)).map (done ++ ·) = (outP first obs n (fs ++ r)).map ((done ++ [c]) ++ ·) := by
  rw [outP, h]
  simp only
  cases outP first obs n (fs ++ r) with
  | none => rfl
  | some m => simp
theorem outP_none {first : Int} {obs : List Ob} {n : Nat} {x : Int} {r : List Int} (h : lookW first obs x = none) : outP first obs n (x :: r) = none := by
  cases n with
  | zero => rfl
  | succ n => rw [outP, h]
theorem outP_much {first : Int} {obs : List Ob} {n : Nat} {ws : List Int} (h : n < ws.length) : outP first obs n ws = none := by
  cases ho : outP first obs n ws with
  | none => rfl
  | some m => have := outP_len ho; omega
/-- What 'Out' tells. -/
def OutT (R : Option (List PCe)) (w : World) (e : Ending) (w' : World) : Prop :=
  Below w.heap.size w w' ∧ ((∃ m v, R = some m ∧ e = .returned (.tuple #[v, .bool true]) ∧ w'.ownsRow w.heap.size 51 4 v m.length (ceL m)) ∨ (R = none ∧ e = .returned (.tuple #[.slice none 0 0, .bool false])))
theorem under_cells : Tryz.prog.underlying 41 = some (.slice 51) := by kernel_rfl
theorem info_cell : (Tryz.prog.info? 51).map (fun i => (i.zero, i.size, i.bytes)) = some (some (.agg #[.int .i64 0, .int .i64 0, .int .i64 0, .string ⟨#[]⟩]), 4, 40) := by kernel_rfl
theorem info_u64 : (Tryz.prog.info? 42).map (fun i => (i.zero, i.size, i.bytes)) = some (some (.int .u64 0), 1, 8) := by kernel_rfl
theorem row_srcD {w : World} {b : Nat} {T : TypeId} {xs : List Value} (h : rowAt w b T xs) (m : Nat) : m = 0 ∨ ∃ ad, (some (⟨b, 0, none⟩ : Addr)) = some ad ∧ ∀ j u, xs[j]? = some u → w.cell? (ad.add j) = some u := by
  refine .inr ⟨_, rfl, fun j u hj => ?_⟩
  rw [Addr.add_lit, h.cell, Nat.zero_add]
  exact hj
theorem owns_src {w : World} {B : Nat} {T : TypeId} {s n c : Nat} {a : Option Addr} {xs : List Value} (h : w.ownsRow B T s (.slice a n c) n xs) : n = 0 ∨ ∃ ad, a = some ad ∧ ∀ j u, xs[j]? = some u → w.cell? (ad.add j) = some u := by
  rcases owns_parts h with ⟨h0, h1, h2⟩ | ⟨g, cap, rest, h0, hg, hr, _⟩
  · exact .inl h1
  · cases h0
    refine .inr ⟨_, rfl, fun j u hj => ?_⟩
    rw [Addr.add_lit, hr.cell, Nat.zero_add, List.getElem?_append_left (List.getElem?_eq_some_iff.1 hj).1]
    exact hj
theorem words_one (xs : List Int) : ∀ u ∈ wordsL xs, u.oneCell' = true := by
  intro u hu
  simp only [List.mem_map] at hu
  obtain ⟨x, _, rfl⟩ := hu
  rfl
set_option maxHeartbeats 16000000 in
theorem out_bad {w : World} {p : Nat} {F : Nat → Prop} {A : Ar} (hA : Held w p F A) (base half space top x : Int) (ho : A.objs base half space top = none) :
    Calls Tryz.prog 14 #[.pointer (some ⟨p, 0, none⟩), heapV base half space top, .int .u64 x] w (OutT none w) := by
  have HG := Lib.hid (good_any (hA.below (w' := w.alloc (.cells #[.int .i64 base, .int .i64 half, .int .i64 space, .int .i64 top] 24)) (bl_alloc (Below.refl _ _) _)) base half space top)
  rw [ho] at HG
  clear ho hA
  go_enter Tryz.func14, Tryz.ntmps14
  go_wp2_with fail
  refine HG.out.mono ?_
  rintro e w1 ⟨rfl, b1⟩
  have B1 := Lib.hid (bl_call (bl_alloc (Below.refl w.heap.size w) _) b1)
  clear b1
  go_wp2_with fail
  refine bodyPost_ret (v := .tuple #[.slice none 0 0, .bool false]) (by simp [results, Tryz.results14, go_sem]) rfl ⟨B1.out, .inr ⟨rfl, rfl⟩⟩

/-- What a word's cell came to, its values named. -/
def CellR (first : Int) (obs : List Ob) (x : Int) (B : Nat) (c : PCe) (v1 : Value) (b : Bool) (w' : World) : Prop :=
  (∃ fs a cap, lookW first obs x = some (c, fs) ∧ v1 = .slice a fs.length cap ∧ b = true ∧ w'.ownsRow B 42 1 (.slice a fs.length cap) fs.length (wordsL fs)) ∨ (lookW first obs x = none ∧ v1 = .slice none 0 0 ∧ b = false)
def CellU (first : Int) (obs : List Ob) (x : Int) (w : World) (e : Ending) (w' : World) : Prop :=
  ∃ c v1 b, e = .returned (.tuple #[ceV c, v1, .bool b]) ∧ Below w.heap.size w w' ∧ CellR first obs x w.heap.size c v1 b w'
theorem CellT.named {first : Int} {obs : List Ob} {x : Int} {w w' : World} {e : Ending} (h : CellT first obs x w e w') : CellU first obs x w e w' := by
  obtain ⟨hb, h⟩ := h
  rcases h with ⟨c, fs, a, cap, h1, h2, h3⟩ | ⟨h1, h2⟩
  · exact ⟨c, _, true, h2, hb, .inl ⟨fs, a, cap, h1, rfl, rfl, h3⟩⟩
  · exact ⟨_, _, false, h2, hb, .inr ⟨h1, rfl, rfl⟩⟩
theorem CellR.turn {first : Int} {obs : List Ob} {x : Int} {B : Nat} {c : PCe} {v1 : Value} {b : Bool} {w w' : World} (h : CellR first obs x B c v1 b w) {S : Nat → Prop} (hu : Upon S w w') (hS : ∀ k, k < w.heap.size → B ≤ k → ¬ S k) : CellR first obs x B c v1 b w' := by
  rcases h with ⟨fs, a, cap, h1, h2, h3, h4⟩ | h
  · exact .inl ⟨fs, a, cap, h1, h2, h3, owns_upon h4 hu fun g hg => hS g (h4.lt g hg).2 (h4.lt g hg).1⟩
  · exact .inr h
def CutC (first : Int) (obs : List Ob) (y : Int) (w : World) (hv : List Value) (g : Nat) (vm : Value) (done : List PCe) (ws : List Int) (v12 v13 v14 : Value) (wx : World) : Prop :=
  ∃ cb c b B, v12 = .pointer (some ⟨cb, 0, none⟩) ∧ v14 = .bool b ∧ OutM w hv g vm done ws wx ∧ rowAt wx cb 51 (ceC c) ∧ (w.heap.size < cb ∧ cb ≠ g ∧ vm.ownBlock ≠ some cb) ∧ CellR first obs y B c v13 b wx ∧ (∀ k, B ≤ k → w.heap.size < k ∧ k ≠ g ∧ vm.ownBlock ≠ some k) ∧ v13.ownBlock ≠ some cb
theorem CellR.own {first : Int} {obs : List Ob} {x : Int} {B : Nat} {c : PCe} {v1 : Value} {b : Bool} {w : World} (h : CellR first obs x B c v1 b w) : ∀ k, v1.ownBlock = some k → B ≤ k ∧ k < w.heap.size := by
  rcases h with ⟨fs, a, cap, h1, rfl, h3, h4⟩ | ⟨_, rfl, _⟩
  · exact fun k hk => h4.lt k hk
  · intro k hk; cases hk
theorem out_low {w : World} {hv : List Value} {g : Nat} {vm : Value} {done : List PCe} {ws : List Int} {wr : World} (h : OutM w hv g vm done ws wr) : ∀ k, wr.heap.size ≤ k → w.heap.size < k ∧ k ≠ g ∧ vm.ownBlock ≠ some k := by
  intro k hk
  have h1 := h.hp.lt
  have h2 := h.t.lt
  exact ⟨by omega, by omega, fun e => by have := (h.m.lt k e).2; omega⟩
theorem out_cells {w : World} {a b c d : Value} {g : Nat} {vm : Value} {done : List PCe} {y : Int} {ws : List Int} {wr : World} (h : OutM w [a, b, c, d] g vm done (y :: ws) wr) :
    wr.cell? ⟨w.heap.size, 0, none⟩ = some a ∧ wr.cell? ⟨w.heap.size, 1, none⟩ = some b ∧ wr.cell? ⟨w.heap.size, 2, none⟩ = some c ∧ wr.cell? ⟨w.heap.size, 3, none⟩ = some d ∧ wr.cell? ⟨g, ws.length, none⟩ = some (.int .u64 y) := by
  have ht := h.t
  have e0 : wordsL (y :: ws).reverse = wordsL ws.reverse ++ [.int .u64 y] := by simp
  rw [e0] at ht
  obtain ⟨-, ht2⟩ := ht.pop (n := ws.length) rfl
  have := ht2 0 _ rfl
  exact ⟨h.hp.cell 0, h.hp.cell 1, h.hp.cell 2, h.hp.cell 3, by simpa using this⟩
/-- The call first, then the cell's variable. -/
theorem cut_call {first : Int} {obs : List Ob} {y : Int} {w : World} {hv : List Value} {g : Nat} {vm : Value} {done : List PCe} {ws : List Int} {wr w3 : World} {c : PCe} {v1 : Value} {b : Bool} (M : OutM w hv g vm done ws wr) (hb : Below wr.heap.size wr w3) (h : CellR first obs y wr.heap.size c v1 b w3) :
    CutC first obs y w hv g vm done ws (.pointer (some ⟨w3.heap.size, 0, none⟩)) v1 (.bool b) (w3.alloc (.cells #[.int .i64 c.1, .int .i64 c.2.1, .int .i64 c.2.2.1, .string c.2.2.2] 51)) := by
  have M3 := M.below hb
  refine ⟨w3.heap.size, c, b, wr.heap.size, rfl, rfl, M3.below (bl_alloc (Below.refl _ _) _), rowAt.made _ _ _, out_low M3 _ (Nat.le_refl _), h.turn (S := fun _ => False) (Upon.alloc _ _ _) (fun _ _ _ h => h), out_low M, fun e => ?_⟩
  have := (h.own _ e).2
  omega
/-- The variable first. -/
theorem cut_made {first : Int} {obs : List Ob} {y : Int} {w : World} {hv : List Value} {g : Nat} {vm : Value} {done : List PCe} {ws : List Int} {wr w2 w3 w4 : World} {c : PCe} {v1 : Value} {b : Bool} {zs : List Value} (M : OutM w hv g vm done ws wr) (h2 : w2.heap = (wr.alloc (.cells ⟨zs⟩ 51)).heap) (hM2 : OutM w hv g vm done ws w2) (hb : Below w2.heap.size w2 w3) (h : CellR first obs y w2.heap.size c v1 b w3) (hz : zs.length = 4)
    (h4 : w4 = (((w3.setCell ⟨wr.heap.size, 0, none⟩ (.int .i64 c.1)).setCell ⟨wr.heap.size, 1, none⟩ (.int .i64 c.2.1)).setCell ⟨wr.heap.size, 2, none⟩ (.int .i64 c.2.2.1)).setCell ⟨wr.heap.size, 3, none⟩ (.string c.2.2.2)) :
    CutC first obs y w hv g vm done ws (.pointer (some ⟨wr.heap.size, 0, none⟩)) v1 (.bool b) w4 := by
  have r2 : rowAt w2 wr.heap.size 51 zs := by unfold rowAt; rw [h2]; exact rowAt.made wr _ zs
  have hs2 : w2.heap.size = wr.heap.size + 1 := by rw [h2]; simp
  have r3 := r2.below hb r2.lt
  have hu : Upon (fun k => k = wr.heap.size) w3 w4 := by
    rw [h4]
    exact (((Upon.setCell (S := fun k => k = wr.heap.size) _ _ rfl).trans (Upon.setCell (S := fun k => k = wr.heap.size) _ _ rfl) fun _ _ h => h).trans (Upon.setCell (S := fun k => k = wr.heap.size) _ _ rfl) fun _ _ h => h).trans (Upon.setCell (S := fun k => k = wr.heap.size) _ _ rfl) fun _ _ h => h
  have hl := out_low M wr.heap.size (Nat.le_refl _)
  refine ⟨wr.heap.size, c, b, w2.heap.size, rfl, rfl, (hM2.below hb).side hu (fun k e => by rw [e]; exact hl), ?_, hl, h.turn hu (fun k _ hk e => by omega), fun k hk => out_low M k (by omega), fun e => ?_⟩
  · rw [h4]
    have := (((r3.set 0 (.int .i64 c.1)).set 1 (.int .i64 c.2.1)).set 2 (.int .i64 c.2.2.1)).set 3 (.string c.2.2.2)
    match zs, hz with
    | [_, _, _, _], _ => exact this
  · have := (h.own _ e).1
    omega
set_option maxHeartbeats 16000000 in
theorem out_good {w : World} {p : Nat} {F : Nat → Prop} {A : Ar} (hA : Held w p F A) (base half space top x : Int) (hx : fitW x) {obs : List Ob} (ho : A.objs base half space top = some obs) :
    Calls Tryz.prog 14 #[.pointer (some ⟨p, 0, none⟩), heapV base half space top, .int .u64 x] w (OutT (outP (space * half) obs 100 [x]) w) := by
  have HG := Lib.hid (good_any (hA.below (w' := w.alloc (.cells #[.int .i64 base, .int .i64 half, .int .i64 space, .int .i64 top] 24)) (bl_alloc (Below.refl _ _) _)) base half space top)
  rw [ho] at HG
  have HC := Lib.hid (fun W (hb : Below w.heap.size w W) y (hy : fitW y) => cellOf_any (hA.below hb) base half space top y hy ho)
  have HOK := Lib.hid (objs_ok hA.ok ho).1
  have HX := Lib.hid hx
  clear ho hA hx
  obtain ⟨FI, hFI⟩ : ∃ FI, space * half = FI := ⟨_, rfl⟩
  rw [hFI] at HC ⊢
  clear hFI
  obtain ⟨R, hR⟩ : ∃ R, outP FI obs 100 [x] = R := ⟨_, rfl⟩
  have ER := Lib.hid hR
  rw [hR]
  clear hR
  obtain ⟨ic, hic, hc0, hc1, hc2⟩ := info_parts info_cell
  obtain ⟨iu, hiu, hu0, hu1, hu2⟩ := info_parts info_u64
  obtain ⟨W0, hW0⟩ : ∃ W0, w.alloc (.cells #[.int .i64 base, .int .i64 half, .int .i64 space, .int .i64 top] 24) = W0 := ⟨_, rfl⟩
  rw [hW0] at HG
  have r0 : rowAt W0 w.heap.size 24 [.int .i64 base, .int .i64 half, .int .i64 space, .int .i64 top] := by rw [← hW0]; exact rowAt.made _ _ _
  have R0 := Lib.hid r0
  have B0 := Lib.hid (show Below w.heap.size w W0 by rw [← hW0]; exact bl_alloc (Below.refl _ _) _)
  obtain ⟨d0, d1, d2, d3⟩ := cells4 r0
  clear r0
  go_enter Tryz.func14, Tryz.ntmps14
  go_wp2_with fail
  clear hW0
  refine HG.out.mono ?_
  rintro e w1 ⟨rfl, b1⟩
  have R1 := Lib.hid (R0.out.below b1 R0.out.lt)
  have B1 := Lib.hid (bl_call B0.out b1)
  clear b1 HG d0 d1 d2 d3
  go_wp2_with fail
  obtain ⟨W2, hW2⟩ : ∃ W2, W2 = (w1.alloc (.cells (Tryz.zeroCells88.setIfInBounds 0 (.int .u64 x)) 88)).alloc (.cells #[.int .u64 x] 42) := ⟨_, rfl⟩
  rw [← hW2]
  have M2 : Hid (OutM w [.int .i64 base, .int .i64 half, .int .i64 space, .int .i64 top] w1.heap.size (.slice none 0 0) [] [x] W2) := by
    refine ⟨by rw [hW2]; exact bl_alloc (bl_alloc B1.out _) _, by rw [hW2]; exact (R1.out.alloc _).alloc _, ⟨by simp [ceL], .inl ⟨rfl, rfl⟩⟩, ?_, R1.out.lt, by simp [Value.ownBlock]⟩
    rw [hW2]
    refine ⟨List.replicate 99 (.int .u64 0), ?_, by simp, by simp⟩
    have e : Tryz.zeroCells88.setIfInBounds 0 (.int .u64 x) = ⟨.int .u64 x :: List.replicate 99 (.int .u64 0)⟩ := by rfl
    rw [e]
    exact (rowAt.made w1 _ _).alloc _
  clear hW2
  go_loopw [8, 10] (fun vm vt wr => ∃ (done : List PCe) (ws : List Int) (ma : Option Addr) (mc : Nat), vm = .slice ma done.length mc ∧ vt = .slice (some ⟨w1.heap.size, 0, none⟩) ws.length 100 ∧ done.length + ws.length ≤ 100 ∧ Hid (OutM w [.int .i64 base, .int .i64 half, .int .i64 space, .int .i64 top] w1.heap.size (.slice ma done.length mc) done ws wr) ∧ Hid (∀ y ∈ ws, fitW y) ∧ Hid (R = (outP FI obs (100 - done.length) ws).map (done ++ ·))) (fun vm _ _ => 101 - lenV vm)
  case atStart => exact ⟨[], [x], none, 0, rfl, rfl, by simp, M2, Lib.hid (fun y hy => by rw [List.mem_singleton] at hy; rw [hy]; exact HX.out), Lib.hid (by rw [← ER.out]; simp)⟩
  case round =>
    obtain ⟨done, ws, ma, mc, rfl, rfl, hlen, HM, HF, HR⟩ := hrel
    cases ws with
    | nil =>
      have E := Lib.hid (show R = some done by rw [HR.out]; cases (100 - done.length) <;> simp [outP])
      go_wp2_with fail
      refine bodyPost_ret (v := .tuple #[.slice ma done.length mc, .bool true]) (by simp [results, Tryz.results14, go_sem]) rfl ⟨HM.out.b, .inl ⟨done, _, E.out, rfl, ?_⟩⟩
      exact owns_base HM.out.m fun g hg => by have := (HM.out.m.lt g hg).1; omega
    | cons y ws =>
      have hlen2 : done.length + (ws.length + 1) ≤ 100 := by simpa using hlen
      have hlp : (0 : Int) < ((y :: ws).length : Int) := by rw [List.length_cons]; omega
      have ht := HM.out.t
      have e0 : wordsL (y :: ws).reverse = wordsL ws.reverse ++ [.int .u64 y] := by simp
      rw [e0] at ht
      obtain ⟨ht1, ht2⟩ := ht.pop (n := ws.length) rfl
      have c1 : wr.cell? ⟨w1.heap.size, ws.length, none⟩ = some (.int .u64 y) := by have := ht2 0 _ rfl; simpa using this
      obtain ⟨d0, d1, d2, d3⟩ := cells4 HM.out.hp
      have hl1 : ((y :: ws).length : Int) = (ws.length : Int) + 1 := by simp
      have hl2 : (ws.length : Int) < (ws.length : Int) + 1 := by omega
      have hl3 : (0 : Int) ≤ (ws.length : Int) := by omega
      have MD : Hid (OutM w [.int .i64 base, .int .i64 half, .int .i64 space, .int .i64 top] w1.heap.size (.slice ma done.length mc) done (y :: ws) wr.drew) := HM.out.below (bl_drew (Below.refl _ _))
      have ME : Hid (OutM w [.int .i64 base, .int .i64 half, .int .i64 space, .int .i64 top] w1.heap.size (.slice ma done.length mc) done (y :: ws) (wr.alloc (.cells #[.int .i64 0, .int .i64 0, .int .i64 0, .string ⟨#[]⟩] 51)).drew) := HM.out.below (bl_drew (bl_alloc (Below.refl _ _) _))
      have FY := Lib.hid (HF.out y (by simp))
      clear ht1 ht2 ht e0
      go_upto_region 8 with fail
      go_cut [12, 13, 14] (fun v12 v13 v14 wx => CutC FI obs y w [.int .i64 base, .int .i64 half, .int .i64 space, .int .i64 top] w1.heap.size (.slice ma done.length mc) done (y :: ws) v12 v13 v14 wx)
      case first =>
        have G0 := Lib.hid (out_cells HM.out)
        have G1 := Lib.hid (out_cells MD.out)
        have G2 := Lib.hid (out_cells ME.out)
        have G3 := Lib.hid (out_cells (HM.out.below (bl_alloc (Below.refl _ _) (.cells #[.int .i64 0, .int .i64 0, .int .i64 0, .string ⟨#[]⟩] 51))))
        have nb1 : w.heap.size ≠ wr.heap.size := by have := HM.out.hp.lt; omega
        have nb2 : w1.heap.size ≠ wr.heap.size := by have := HM.out.t.lt; omega
        go_wp2_with fail
        go_region_held3 (fun w' => w'.cell? ⟨w.heap.size, 0, none⟩ = some (.int .i64 base) ∧ w'.cell? ⟨w.heap.size, 1, none⟩ = some (.int .i64 half) ∧ w'.cell? ⟨w.heap.size, 2, none⟩ = some (.int .i64 space) ∧ w'.cell? ⟨w.heap.size, 3, none⟩ = some (.int .i64 top) ∧ w'.cell? ⟨w1.heap.size, ws.length, none⟩ = some (.int .u64 y))
          (first | with_reducible exact G0.out | with_reducible exact G1.out | with_reducible exact G2.out | with_reducible exact G3.out | with_reducible exact ⟨y0, y1, y2, y3, y4⟩ | with_reducible exact out_cells (M3.out.below (bl_alloc (Below.refl _ _) _)) | (refine ⟨?_, ?_, ?_, ?_, ?_⟩ <;> simp [go_sem, y0, y1, y2, y3, y4, nb1, nb2]))
          (first
            | (go_at_call 39
               with_reducible refine (HC.out wr.drew MD.out.b y FY.out).mono ?_
               rintro e w3 ht
               obtain ⟨c, v1, b, rfl, b3, hc⟩ := ht.named
               have M3 := Lib.hid (MD.out.below b3)
               obtain ⟨y0, y1, y2, y3, y4⟩ := out_cells M3.out
               have FIN := Lib.hid (cut_call MD.out b3 hc)
               clear ht b3 hc)
            | (go_at_call 39
               with_reducible refine (HC.out (wr.alloc (.cells #[.int .i64 0, .int .i64 0, .int .i64 0, .string ⟨#[]⟩] 51)).drew ME.out.b y FY.out).mono ?_
               rintro e w3 ht
               obtain ⟨c, v1, b, rfl, b3, hc⟩ := ht.named
               have M3 := Lib.hid (ME.out.below b3)
               obtain ⟨y0, y1, y2, y3, y4⟩ := out_cells M3.out
               have FIN := Lib.hid (fun w4 h4 => cut_made (w2 := (wr.alloc (.cells #[.int .i64 0, .int .i64 0, .int .i64 0, .string ⟨#[]⟩] 51)).drew) (zs := [.int .i64 0, .int .i64 0, .int .i64 0, .string ⟨#[]⟩]) (w4 := w4) HM.out rfl ME.out b3 hc rfl h4)
               have r3 := ((rowAt.made wr 51 [.int .i64 0, .int .i64 0, .int .i64 0, .string ⟨#[]⟩]).drew).below b3 (by simp)
               obtain ⟨z0, z1, z2, z3⟩ := cells4 r3
               have f0 := r3.free 0
               have f1 := r3.free 1
               have f2 := r3.free 2
               have f3 := r3.free 3
               have l3 := r3.lt
               clear ht b3 hc r3))
        all_goals
          go_wp2
          go_meet
          first | exact FIN.out | exact FIN.out _ rfl
      case rest =>
        obtain ⟨cb, c, b, B, rfl, rfl, hm, hrow, hcb, hcr, hB, hne⟩ := hcut
        rename_i wc
        have MC := Lib.hid hm
        have RC := Lib.hid hrow
        have OWN := Lib.hid hcr.own
        have NE := Lib.hid hne
        have HB := Lib.hid hB
        have HCB := Lib.hid hcb
        clear hm hrow hcb hB hne HM MD ME d0 d1 d2 d3 c1
        rcases hcr with ⟨fs, fa, fcap, hlk, rfl, rfl, hfo⟩ | ⟨hlk, rfl, rfl⟩
        · have FO := Lib.hid hfo
          have LK := Lib.hid hlk
          obtain ⟨hff, hf8⟩ := look_fit HOK.out hlk
          have FF := Lib.hid hff
          have HN := Lib.hid (show R = (outP FI obs (99 - done.length) (fs ++ ws)).map ((done ++ [c]) ++ ·) by
            rw [HR.out, ← outP_next hlk]
            congr 2
            omega)
          clear hfo hlk hff HR
          have hlen3 : done.length + ws.length + 1 ≤ 100 := by omega
          by_cases hmore : 100 < done.length + 1 + ws.length + fs.length
          · have hmI : (100 : Int) < (done.length : Int) + 1 + (ws.length : Int) + (fs.length : Int) := by omega
            have E := Lib.hid (show R = none by rw [HN.out, outP_much (by rw [List.length_append]; omega)]; rfl)
            clear hmore
            go_wp2_with fail
            refine bodyPost_ret (v := .tuple #[.slice none 0 0, .bool false]) (by simp [results, Tryz.results14, go_sem]) rfl ⟨MC.out.b, .inr ⟨E.out, rfl⟩⟩
          · have hmI : ¬ (100 : Int) < (done.length : Int) + 1 + (ws.length : Int) + (fs.length : Int) := by omega
            have hz0 : ((done.length : Int) + 1) + (ws.length : Int) + (fs.length : Int) ≤ 100 := by omega
            obtain ⟨y0, y1, y2, y3⟩ := cells4 RC.out
            have hcl := RC.out.lt
            obtain ⟨WA, hWA⟩ : ∃ WA, wc.alloc (.cells #[.int .i64 c.1, .int .i64 c.2.1, .int .i64 c.2.2.1, .string c.2.2.2] 51) = WA := ⟨_, rfl⟩
            have bA : Below wc.heap.size wc WA := by rw [← hWA]; exact bl_alloc (Below.refl _ _) _
            have MA := Lib.hid (MC.out.below bA)
            have RA := Lib.hid (show rowAt WA wc.heap.size 51 (ceC c) by rw [← hWA]; exact rowAt.made _ _ _)
            have FA := Lib.hid (owns_below FO.out bA (fun k hk => (FO.out.lt k hk).2))
            have hsA : wc.heap.size < WA.heap.size := RA.out.lt
            have hbase : w.heap.size + 1 ≤ WA.heap.size := by have := MA.out.hp.lt; omega
            clear bA
            go_wp2_with (at_builtin; refine wpList_append_w (by rfl) _ _ _ (by rfl) (w.heap.size + 1) 51 ic (.agg #[.int .i64 0, .int .i64 0, .int .i64 0, .string ⟨#[]⟩]) 4 40 under_cells hic hc0 hc1 hc2 (by rfl) (by decide) (.slice ma done.length mc) done.length (ceL done) (by rfl) MA.out.m (some ⟨wc.heap.size, 0, none⟩) 1 1 (ceC c) (by rfl) (by rfl) (row_srcD RA.out 1) (fun u hu => ceL_one (l := [c]) u (by simpa [ceL] using hu)) (by simp only [maxLen]; omega) (by omega) hbase ?_; intro v5 w5 ho5 hg5 hb5; obtain ⟨a5, c5, rfl⟩ := owns_slice ho5; have M5 := Lib.hid (MA.out.app ho5 rfl hg5 hb5); have F5 := Lib.hid (owns_upon FA.out (grown_upon hg5) (fun k hk e => (HB.out k (FA.out.lt k hk).1).2.2 e)); have N5 := Lib.hid (show ∀ k, (Value.slice fa fs.length fcap).ownBlock = some k → (Value.slice a5 (done.length + 1) c5).ownBlock ≠ some k from fun k hk e => by
              rcases hb5 with hb | hb
              · rw [hb] at e; exact (HB.out k (FO.out.lt k hk).1).2.2 e
              · rw [hb] at e; cases e; have := (FO.out.lt _ hk).2; omega); clear ho5 hg5 hb5)
            have hfs := F5.out.1
            refine (reverse_own (xs := fs) F5.out (by omega)).mono ?_
            rintro e w6 ⟨rfl, hf6, hu6⟩
            have M6 := Lib.hid (M5.out.side hu6 (fun k hk => ⟨(HB.out k (FO.out.lt k hk).1).1, (HB.out k (FO.out.lt k hk).1).2.1, N5.out k hk⟩))
            have F6 := Lib.hid hf6
            clear hf6 hu6 hfs hWA
            have ht := M6.out.t
            have e0 : wordsL (y :: ws).reverse = wordsL ws.reverse ++ [.int .u64 y] := by simp
            rw [e0] at ht
            have T6 := Lib.hid (ht.pop (n := ws.length) rfl).1
            have hs2 : ∀ W, (Instr.slice 22 (.slice (some ⟨w1.heap.size, 0, none⟩) (ws.length + 1) 100) none (some (.int .i64 (ws.length : Int))) none).run Tryz.prog W = .ok (.slice (some ⟨w1.heap.size, 0, none⟩) ws.length 100) W := fun W => run_slice_to_w _ _ under_words' hiu _ (by omega) (by omega) W
            have hnw : (wordsL fs.reverse).length = fs.length * 1 := by simp
            have hroom : ws.length + fs.length ≤ 100 := by omega
            clear ht e0
            go_wp2_with (at_builtin; refine wpList_append_in (by rfl) _ _ _ (by rfl) 42 iu 1 under_words' hiu hu1 T6.out (by rfl) fa fs.length fcap (wordsL fs.reverse) (by rfl) hnw (owns_src F6.out) (words_one _) hroom ?_; intro w7 ht7 hu7; have M7 := Lib.hid (M6.out.todo (us := fs ++ ws) (n := ws.length + fs.length) (by simpa using ht7) (by rw [List.length_append]; omega) hu7); clear ht7 hu7)
            go_roundw
            case rel =>
              refine ⟨done ++ [c], fs ++ ws, a5, c5, by simp, by simp [Nat.add_comm], by simp; omega, ?_, ?_, ?_⟩
              · have := M7.out
                rw [List.length_append]
                exact this
              · exact Lib.hid fun u hu => (List.mem_append.1 hu).elim (FF.out u) (fun h => HF.out u (List.mem_cons_of_mem _ h))
              · have e9 : 100 - (done ++ [c]).length = 99 - done.length := by rw [List.length_append, List.length_singleton]; omega
                rw [e9]
                exact HN
            case measure => simp [lenV]; omega
        · have E := Lib.hid (show R = none by rw [HR.out, outP_none hlk]; rfl)
          clear hlk
          go_wp2_with fail
          refine bodyPost_ret (v := .tuple #[.slice none 0 0, .bool false]) (by simp [results, Tryz.results14, go_sem]) rfl ⟨MC.out.b, .inr ⟨E.out, rfl⟩⟩
theorem out_any {w : World} {p : Nat} {F : Nat → Prop} {A : Ar} (hA : Held w p F A) (base half space top x : Int) (hx : fitW x) :
    Calls Tryz.prog 14 #[.pointer (some ⟨p, 0, none⟩), heapV base half space top, .int .u64 x] w (OutT (match A.objs base half space top with | some obs => outP (space * half) obs 100 [x] | none => none) w) := by
  cases ho : A.objs base half space top with
  | none => exact out_bad hA base half space top x ho
  | some obs => exact out_good hA base half space top x hx ho
end Go.Proofs.YtnjpjhlodamanaaGreatDoor

/-
  slices.Repeat of one word; a copy of cells as one step.
  Conditions: as each states.
-/
namespace Go.Proofs.YtnjpjhlodamanaaGreatDoor
set_option linter.unusedVariables false
set_option linter.unusedSimpArgs false
open Go.ChangeShapes Go.WideShapes Go.ChangeAt Go.RowKit
set_option maxRecDepth 100000

/-! ## copy of elements of more than one cell -/
def spl (cur : List Value) (off : Nat) (cs : List Value) : List Value := cur.take off ++ (cs ++ cur.drop (off + cs.length))
theorem run_copy_wide {P : Program} (w : World) (dT sT ty elem : TypeId) (g o dLen dCap : Nat) (a : Addr) (sLen sCap : Nat) (cur : List Value) (t : TypeId) (cs : List Value) (m size : Nat)
    (hu : P.underlying dT = some (.slice elem)) (hs : (P.info? elem).map (·.size) = some size)
    (hg : rowAt w g t cur) (hm : Nat.min sLen dLen = m) (hn : m * size = cs.length)
    (hsrc : ∀ j v, cs[j]? = some v → w.cell? (a.add j) = some v) (hfit : o + cs.length ≤ cur.length) (h1 : ∀ v ∈ cs, v.oneCell' = true) :
    (Builtin.copy_ #[dT, sT] ty #[.slice (some ⟨g, o, none⟩) dLen dCap, .slice (some a) sLen sCap]).run P w = .ok (.int .i64 m) (w.setRow g (spl cur o cs).toArray) := by
  have hl := run_loadCells_list (P := P) w a cs hsrc
  have hst := run_storeCells_at P g o t cs 0 cur.toArray w hg (by simpa using hfit) h1
  cases hq : P.info? elem with
  | none => simp [hq] at hs
  | some i =>
    have hi : i.size = size := by simpa [hq] using hs
    simp [Builtin.copy_, run_underlying hu, Builtin.lenOf, Builtin.firstCells, sizeOf, typeInfo, hq, hi, hm, hn, hl, hst, spl, goInt]
theorem step_copy_wide {P : Program} {ops : Array Oper} {o : Oper} {a : Act} {w : World} {K : Act → World → Prop} {Q : Exit → Act → World → Prop} {E : Prop} (hgd : o.guard = none) (d s : Operand) (dT sT : TypeId)
    (ho : o.op = .call { callee := .builtin .copy, args := #[d, s], argTypes := #[dT, sT] }) (elem : TypeId) (size : Nat) (hu : P.underlying dT = some (.slice elem)) (hsz : (P.info? elem).map (·.size) = some size)
    (g off dLen dCap : Nat) (sa : Addr) (sLen sCap : Nat) (hd : a.eval d = .slice (some ⟨g, off, none⟩) dLen dCap) (hs : a.eval s = .slice (some sa) sLen sCap)
    (cur : List Value) (t : TypeId) (hg : rowAt w g t cur) (cs : List Value) (m : Nat) (hm : Nat.min sLen dLen = m) (hn : m * size = cs.length)
    (hsrc : ∀ j v, cs[j]? = some v → w.cell? (sa.add j) = some v)
    (hfit : off + cs.length ≤ cur.length) (h1 : ∀ v ∈ cs, v.oneCell' = true)
    (h : ∀ w', Hid (w' = w.setRow g (spl cur off cs).toArray) → K (a.put o.dst (.int .i64 m)) w') :
    if Region.wanted o (yielded ops a.tmps) = true then Oper.wp P o a w K Q else E := by
  have hw : Region.wanted o (yielded ops a.tmps) = true := by simp [Region.wanted, hgd]
  rw [if_pos hw]
  have hrun := run_copy_wide (P := P) w dT sT o.type elem g off dLen dCap sa sLen sCap cur t cs m size hu hsz hg hm hn hsrc hfit h1
  unfold Oper.wp
  simp only [execOp, ho, resolve, invoke, builtin, Sem.run_bind, Sem.run_pure, Result.andThen_ok, List.map_toArray, List.map_cons, List.map_nil, hd, hs, hrun]
  exact h _ rfl
theorem rowAt.setRow {w : World} {g : Nat} {t : TypeId} {cur cs : List Value} (h : rowAt w g t cur) : rowAt (w.setRow g cs.toArray) g t cs := setRow_heap w g _ _ t _ h
theorem upon_setRow (w : World) (g : Nat) (cs : Array Value) : Upon (fun k => k = g) w (w.setRow g cs) :=
  ⟨rfl, rfl, rfl, by simp [World.setRow], fun k _ hs => setRow_other w g k cs fun e => hs e⟩

def repL (n : Nat) (x : Int) : List Value := List.replicate n (.int .u64 x)
theorem repL_length (n : Nat) (x : Int) : (repL n x).length = n := by simp [repL]
theorem repL_app (a b : Nat) (x : Int) : repL (a + b) x = repL a x ++ repL b x := by simp [repL, List.replicate_append_replicate]
theorem repL_one {n : Nat} {x : Int} : ∀ u ∈ repL n x, u.oneCell' = true := by
  intro u hu
  obtain rfl := List.eq_of_mem_replicate hu
  rfl
theorem spl_repW {x : Int} {k m n : Nat} {zs : List Value} (hz : zs.length = n - k) (hm : m ≤ n - k) (hk : k ≤ n) :
    ∃ zs' : List Value, spl (repL k x ++ zs) k (repL m x) = repL (k + m) x ++ zs' ∧ zs'.length = n - (k + m) := by
  refine ⟨zs.drop m, ?_, by simp; omega⟩
  have h1 := repL_length k x
  have h2 := repL_length m x
  unfold spl
  rw [h2, List.take_append_of_le_length (by omega), List.take_of_length_le (by omega), List.drop_append, h1, List.drop_of_length_le (by omega), List.nil_append, show k + m - k = m by omega]
  rw [repL_app, List.append_assoc]
theorem mul_any (n : Nat) (hn : n ≤ 600) (w : World) :
    Calls Tryz.prog 78 #[.int .u64 1, .int .u64 n] w fun e w' => e = .returned (.tuple #[.int .u64 0, .int .u64 n]) ∧ w' = w := by
  refine (Any.bits_Mul Tryz.laysNm212 1 n (by decide) (by omega) w).mono ?_
  rintro e w' ⟨rfl, hw⟩
  refine ⟨?_, hw⟩
  rw [Nat.one_mul, Nat.div_eq_of_lt (by omega), Nat.mod_eq_of_lt (by omega)]
  rfl
theorem info_w2 : (Tryz.prog.info? 42).map (·.size) = some 1 := by kernel_rfl
def RepPost (n : Nat) (x : Int) (w : World) (e : Ending) (w' : World) : Prop :=
  e = .returned (.slice (some ⟨w.heap.size, 0, none⟩) n n) ∧ rowAt w' w.heap.size 42 (repL n x) ∧ Below w.heap.size w w'
def RepIn (n k : Nat) (x : Int) (g : Nat) (w w' : World) : Prop := (∃ zs : List Value, rowAt w' g 42 (repL k x ++ zs) ∧ zs.length = n - k) ∧ Below w.heap.size w w'
theorem rep_end {n : Nat} {x : Int} {w w' : World} (h : RepIn n n x w.heap.size w w') : RepPost n x w (.returned (.slice (some ⟨w.heap.size, 0, none⟩) n n)) w' := by
  obtain ⟨⟨zs, h1, h2⟩, h3⟩ := h
  have : zs = [] := List.length_eq_zero_iff.1 (by omega)
  subst this
  rw [List.append_nil] at h1
  exact ⟨rfl, h1, h3⟩
theorem rep_step {n k m : Nat} {x : Int} {w wr W : World} {zs : List Value} (h1 : rowAt wr w.heap.size 42 (repL k x ++ zs)) (h2 : zs.length = n - k) (hb : Below w.heap.size w wr) (hm : m ≤ n - k) (hk : k ≤ n)
    (hW : W = wr.setRow w.heap.size (spl (repL k x ++ zs) k (repL m x)).toArray) : RepIn n (k + m) x w.heap.size w W := by
  subst hW
  obtain ⟨zs', e, hl⟩ := spl_repW (x := x) h2 hm hk
  refine ⟨⟨zs', ?_, hl⟩, hb.trans ((upon_setRow _ _ _).belowB (Nat.le_of_lt h1.lt) (fun k e => by omega))⟩
  rw [← e]
  exact h1.setRow
theorem make_rep (n : Nat) (hn : n ≤ 600) : ∃ zs : List Value, zs.length = n ∧ ∀ w : World, (Instr.makeSlice 22 (.int .i64 (n : Int)) (.int .i64 (n : Int))).run Tryz.prog w = .ok (.slice (some ⟨w.heap.size, 0, none⟩) n n) (w.alloc (.cells ⟨zs⟩ 42)) := by
  obtain ⟨i, hi, hz0, hz1, hz2⟩ := info_parts info_word'
  have hb : (i.bytes : Int) * (n : Int) ≤ 281474976710656 := by rw [hz2]; omega
  refine ⟨(madeCells (Value.int .u64 0).cells (n * 1)).toList, by rw [Array.length_toList, size_madeCells]; simp [Value.cells], fun w => ?_⟩
  have hr := run_make (P := Tryz.prog) w 22 42 i _ under_words' hi hz0 .i64 .i64 n n (by omega) (by omega) hb (by omega)
  simp only [Int.toNat_natCast] at hr
  rw [hr, hz1]

theorem w_src {w : World} {b o : Nat} {x : Int} (h0 : w.cell? ⟨b, o, none⟩ = some (.int .u64 x)) : ∀ j v, (repL 1 x)[j]? = some v → w.cell? ((⟨b, o, none⟩ : Addr).add j) = some v := by
  intro j v hj
  match j with
  | 0 => simp [repL] at hj; subst hj; exact h0
  | j + 1 => simp [repL] at hj
set_option maxHeartbeats 4000000 in
theorem repeat_any {w : World} {b o cap : Nat} {x : Int} {n : Nat} (hn : n ≤ 600) (hn0 : 0 < n) (h0 : w.cell? ⟨b, o, none⟩ = some (.int .u64 x)) :
    Calls Tryz.prog 59 #[.slice (some ⟨b, o, none⟩) 1 cap, .int .i64 n] w (RepPost n x w) := by
  have hb := World.block_lt_of_cell? w _ h0
  have n1 : ¬ ((9223372036854775807 : Int) < n) := by omega
  have n2 : (0 : Int) ≤ n := by omega
  obtain ⟨zs, hzl, hmk⟩ := make_rep n hn
  obtain ⟨W1, hW1⟩ : ∃ W, w.alloc (.cells ⟨zs⟩ 42) = W := ⟨_, rfl⟩
  have r1 : rowAt W1 w.heap.size 42 zs := by rw [← hW1]; exact rowAt.made _ _ _
  have b1 : Below w.heap.size w W1 := by rw [← hW1]; exact bl_alloc (Below.refl _ _) _
  have e0 : W1.cell? ⟨b, o, none⟩ = some (.int .u64 x) := (b1.cell (p := ⟨b, o, none⟩) hb).trans h0
  have hmin : Nat.min 1 n = 1 := Nat.min_eq_left (by omega)
  have hcopy := run_copy_wide (P := Tryz.prog) W1 22 22 3 42 w.heap.size 0 n n ⟨b, o, none⟩ 1 cap zs 42 (repL 1 x) 1 1 under_words' info_w2 r1 hmin rfl (w_src e0) (by simp [repL]; omega) repL_one
  obtain ⟨W2, hW2⟩ : ∃ W, W1.setRow w.heap.size (spl zs 0 (repL 1 x)).toArray = W := ⟨_, rfl⟩
  rw [hW2] at hcopy
  have RI : Hid (RepIn n 1 x w.heap.size w W2) := by
    have := rep_step (n := n) (k := 0) (m := 1) (x := x) (w := w) (wr := W1) (W := W2) (zs := zs) (by simpa [repL] using r1) (by omega) b1 (by omega) (by omega) (by rw [← hW2]; simp [repL])
    exact this
  have hmI : (n : Int) * 0 = 0 := by omega
  clear hW2 r1 b1 e0 h0 hzl hmI
  go_enter Tryz.func59, Tryz.ntmps59
  go_wp2_with fail
  refine (mul_any n hn w).mono ?_
  rintro e w' ⟨rfl, rfl⟩
  go_wp2_with fail
  clear hW1 hcopy hmk
  go_loopw [8] (fun i wr => ∃ k : Nat, 1 ≤ k ∧ k ≤ n ∧ i = .int .i64 k ∧ Hid (RepIn n k x w'.heap.size w' wr)) (fun i _ => n - (intOf i).toNat)
  case atStart => exact ⟨1, by omega, hn0, rfl, RI⟩
  case round =>
    obtain ⟨k, hk1, hk2, rfl, HR⟩ := hrel
    by_cases hlt : k < n
    · have hltI : (k : Int) < n := by omega
      have hs1 : ∀ w, (Instr.slice 22 (.slice (some ⟨w'.heap.size, 0, none⟩) n n) (some (.int .i64 (k : Int))) none none).run Tryz.prog w = .ok (.slice (some ⟨w'.heap.size, k, none⟩) (n - k) (n - k)) w := fun w => by
        obtain ⟨i, hi, hz0, hz1, hz2⟩ := info_parts info_word'
        rw [run_slice_from_w _ _ under_words' hi _ hk2 w, if_neg (by omega), hz1]
        simp [Addr.add]
        omega
      have hs2 : ∀ w, (Instr.slice 22 (.slice (some ⟨w'.heap.size, 0, none⟩) n n) none (some (.int .i64 (k : Int))) none).run Tryz.prog w = .ok (.slice (some ⟨w'.heap.size, 0, none⟩) k n) w := fun w => by
        obtain ⟨i, hi, hz0, hz1, hz2⟩ := info_parts info_word'
        exact run_slice_to_w _ _ under_words' hi _ hk2 (Nat.le_refl _) w
      obtain ⟨m, hm⟩ : ∃ m, m = Nat.min k (n - k) := ⟨_, rfl⟩
      have hmk : m ≤ n - k := by rw [hm]; exact Nat.min_le_right _ _
      have hm1 : 1 ≤ m := by rw [hm]; exact Nat.le_min.2 ⟨hk1, by omega⟩
      have hm2 : m ≤ k := by rw [hm]; exact Nat.min_le_left _ _
      obtain ⟨⟨zs2, z1, z2⟩, z3⟩ := HR.out
      have hlen := repL_length k x
      have hlem := repL_length m x
      have hsrc : ∀ j v, (repL m x)[j]? = some v → wr.drew.cell? ((⟨w'.heap.size, 0, none⟩ : Addr).add j) = some v := fun j v hj => by
        have z1' : rowAt wr.drew w'.heap.size 42 (repL k x ++ zs2) := z1
        have h : wr.drew.cell? ⟨w'.heap.size, 0 + j, none⟩ = some v := by
          rw [z1'.cell, Nat.zero_add]
          have hj2 := (List.getElem?_eq_some_iff.1 hj).1
          rw [show k = m + (k - m) by omega, repL_app, List.append_assoc, List.getElem?_append_left hj2]
          exact hj
        rw [show ((⟨w'.heap.size, 0, none⟩ : Addr).add j) = ⟨w'.heap.size, 0 + j, none⟩ by unfold Addr.add; split <;> simp_all]
        exact h
      have HZ1 := Lib.hid z1
      have HZ2 := Lib.hid z2
      have HZ3 := Lib.hid z3
      have HS := Lib.hid hsrc
      have HM := Lib.hid hm
      have HFIT := Lib.hid (show k + (repL m x).length ≤ (repL k x ++ zs2).length by rw [List.length_append, hlen, hlem, z2]; omega)
      have HL := Lib.hid hlem
      obtain ⟨cur, hcur⟩ : ∃ cur, repL k x ++ zs2 = cur := ⟨_, rfl⟩
      obtain ⟨cs, hcs⟩ : ∃ cs, repL m x = cs := ⟨_, rfl⟩
      have HO := Lib.hid (show ∀ v ∈ cs, v.oneCell' = true by rw [← hcs]; exact repL_one)
      have FIN := Lib.hid (show ∀ W, W = wr.drew.setRow w'.heap.size (spl cur k cs).toArray → RepIn n (k + m) x w'.heap.size w' W from fun W hW => rep_step (wr := wr.drew) HZ1.out HZ2.out (bl_drew HZ3.out) hmk hk2 (by rw [hcur, hcs]; exact hW))
      rw [hcur] at HZ1 HFIT
      rw [hcs] at HS HFIT HL
      clear z1 z2 z3 hlen hlem hsrc hm hcur hcs HR
      have hc := run_copy_wide (P := Tryz.prog) wr.drew 22 22 3 42 w'.heap.size k (n - k) (n - k) ⟨w'.heap.size, 0, none⟩ k n cur 42 cs m 1 under_words' info_w2 HZ1.out HM.out.symm (by rw [HL.out, Nat.mul_one]) HS.out HFIT.out HO.out
      obtain ⟨W3, hW3⟩ : ∃ W, wr.drew.setRow w'.heap.size (spl cur k cs).toArray = W := ⟨_, rfl⟩
      rw [hW3] at hc
      have R3 := Lib.hid (FIN.out W3 hW3.symm)
      clear hW3
      go_wp2_with fail
      go_region
      go_wp2_with fail
      go_roundw
      case rel => exact ⟨k + m, by omega, by omega, by go_num, R3⟩
      case measure => simp [intOf]; omega
    · obtain rfl : k = n := by omega
      go_wp2_with fail
      go_ret
      exact rep_end HR.out

theorem repeat_zero {w : World} {b o cap : Nat} {x : Int} (h0 : w.cell? ⟨b, o, none⟩ = some (.int .u64 x)) :
    Calls Tryz.prog 59 #[.slice (some ⟨b, o, none⟩) 1 cap, .int .i64 0] w (RepPost 0 x w) := by
  obtain ⟨zs, hzl, hmk⟩ := make_rep 0 (by omega)
  have : zs = [] := List.length_eq_zero_iff.1 hzl
  subst this
  obtain ⟨W1, hW1⟩ : ∃ W, w.alloc (.cells #[] 42) = W := ⟨_, rfl⟩
  have hmk0 : ∀ w : World, (Instr.makeSlice 22 (.int .i64 0) (.int .i64 0)).run Tryz.prog w = .ok (.slice (some ⟨w.heap.size, 0, none⟩) 0 0) (w.alloc (.cells #[] 42)) := hmk
  have r1 : rowAt W1 w.heap.size 42 [] := by rw [← hW1]; exact rowAt.made _ _ _
  have b1 : Below w.heap.size w W1 := by rw [← hW1]; exact bl_alloc (Below.refl _ _) _
  have hcopy := run_copy_wide (P := Tryz.prog) W1 22 22 3 42 w.heap.size 0 0 0 ⟨b, o, none⟩ 1 cap [] 42 [] 0 1 under_words' info_w2 r1 rfl rfl (by simp) (by simp) (by simp)
  obtain ⟨W2, hW2⟩ : ∃ W, W1.setRow w.heap.size (spl [] 0 []).toArray = W := ⟨_, rfl⟩
  rw [hW2] at hcopy
  have R2 := Lib.hid (show rowAt W2 w.heap.size 42 (repL 0 x) by rw [← hW2]; exact r1.setRow)
  have B2 := Lib.hid (show Below w.heap.size w W2 by rw [← hW2]; exact b1.trans ((upon_setRow _ _ _).belowB (Nat.le_of_lt r1.lt) (fun k e => by omega)))
  have hm0 := mul_any 0 (by omega) w
  have HM := Lib.hid hm0
  clear hW2 r1 b1 hmk hzl hm0
  go_enter Tryz.func59, Tryz.ntmps59
  go_wp2_with fail
  refine (HM.out).mono ?_
  rintro e w' ⟨rfl, rfl⟩
  go_wp2_with fail
  go_rounds 1
  go_ret
  exact ⟨rfl, R2.out, B2.out⟩
theorem repeatW_any {w : World} {b o cap : Nat} {x : Int} {n : Nat} (hn : n ≤ 600) (h0 : w.cell? ⟨b, o, none⟩ = some (.int .u64 x)) :
    Calls Tryz.prog 59 #[.slice (some ⟨b, o, none⟩) 1 cap, .int .i64 n] w (RepPost n x w) := by
  by_cases hz : n = 0
  · subst hz; exact repeat_zero h0
  · exact repeat_any hn (by omega) h0
end Go.Proofs.YtnjpjhlodamanaaGreatDoor

/-
  Package data: a cell's object; how many words a message takes; the document's.
  Conditions: as each states.
-/
namespace Go.Proofs.YtnjpjhlodamanaaGreatDoor
set_option linter.unusedVariables false
set_option linter.unusedSimpArgs false
open Go.ChangeShapes Go.WideShapes Go.ChangeAt Go.RowKit
set_option maxRecDepth 100000

theorem int_zero (w : World) : Calls Tryz.prog 54 #[.int .i64 0] w fun e w' => e = .returned (.int .u64 1) ∧ w = w' :=
  (int_any 0 w).mono fun e w' ⟨h1, h2⟩ => ⟨by rw [h1]; rfl, h2⟩
def ObjOfT (k t : Int) (n : Nat) (s : ByteArray) (w : World) (e : Ending) (w' : World) : Prop :=
  ∃ rb, e = .returned (.agg #[.int .i64 k, .int .i64 t, .slice (some ⟨rb, 0, none⟩) n n, .string s]) ∧ w.heap.size ≤ rb ∧ rowAt w' rb 42 (repL n 1) ∧ Below w.heap.size w w'
set_option maxHeartbeats 16000000 in
theorem objectOf_any (k t n : Int) (s : ByteArray) (j : Nat) (hj : hasC (k, t, n, s) = (j : Int)) (hj8 : j ≤ 8) (w : World) :
    Calls Tryz.prog 38 #[.agg #[.int .i64 k, .int .i64 t, .int .i64 n, .string s]] w (ObjOfT k t j s w) := by
  have HJ := Lib.hid (fun W => dhas_is hj W)
  clear hj
  go_enter Tryz.func38, Tryz.ntmps38
  go_wp2_with fail
  obtain ⟨W, hW⟩ : ∃ W, W = (w.alloc (.cells #[.int .i64 k, .int .i64 t, .int .i64 n, .string s] 51)).alloc (.cells #[.int .i64 0, .int .i64 0, .slice none 0 0, .string ⟨#[]⟩] 86) := ⟨_, rfl⟩
  rw [← hW]
  have r1 : rowAt W w.heap.size 51 [.int .i64 k, .int .i64 t, .int .i64 n, .string s] := by rw [hW]; exact (rowAt.made _ _ _).alloc _
  have r2 : rowAt W (w.heap.size + 1) 86 [.int .i64 0, .int .i64 0, .slice none 0 0, .string ⟨#[]⟩] := by rw [hW]; exact rowAt.made_at _ _ (by simp)
  have BW := Lib.hid (show Below w.heap.size w W by rw [hW]; exact bl_alloc (bl_alloc (Below.refl _ _) _) _)
  have R1 := Lib.hid r1
  have R2 := Lib.hid r2
  obtain ⟨d0, d1, d2, d3⟩ := cells4 r1
  have hsW : w.heap.size + 1 < W.heap.size := r2.lt
  have G0 := Lib.hid (cells4 R1.out.drew)
  have G1 := Lib.hid (cells4 (R1.out.alloc (.cells #[.int .u64 1] 42)))
  have G2 := Lib.hid (cells4 (R1.out.alloc (.cells #[.int .u64 1] 42)).drew)
  clear hW r1 r2
  go_region_held3 (fun w' => w'.cell? ⟨w.heap.size, 0, none⟩ = some (.int .i64 k) ∧ w'.cell? ⟨w.heap.size, 1, none⟩ = some (.int .i64 t) ∧ w'.cell? ⟨w.heap.size, 2, none⟩ = some (.int .i64 n) ∧ w'.cell? ⟨w.heap.size, 3, none⟩ = some (.string s))
    (first | with_reducible exact ⟨d0, d1, d2, d3⟩ | with_reducible exact G0.out | with_reducible exact G1.out | with_reducible exact G2.out | with_reducible exact ⟨z0, z1, z2, z3⟩ | with_reducible exact ⟨y0, y1, y2, y3⟩ | with_reducible exact G3.out | (refine ⟨?_, ?_, ?_, ?_⟩ <;> simp [go_sem, z0, z1, z2, z3]))
    (first
      | (go_at_call 54; refine (int_zero _).mono ?_; rintro e w3 ⟨rfl, rfl⟩)
      | (go_at_call 42
         with_reducible refine (HJ.out W.drew).mono ?_
         rintro e w3 ⟨rfl, b3⟩
         have R3 := Lib.hid (R1.out.drew.below b3 R1.out.drew.lt)
         have Q3 := Lib.hid (R2.out.drew.below b3 R2.out.drew.lt)
         have B3 := Lib.hid (bl_call (bl_drew (Below.refl W.heap.size W)) b3)
         obtain ⟨y0, y1, y2, y3⟩ := cells4 R3.out
         have G3 := Lib.hid (cells4 (R3.out.alloc (.cells #[.int .u64 1] 42)))
         clear b3)
      | (go_at_call 42
         with_reducible refine (HJ.out (W.alloc (.cells #[.int .u64 1] 42)).drew).mono ?_
         rintro e w3 ⟨rfl, b3⟩
         have R3 := Lib.hid ((R1.out.alloc (.cells #[.int .u64 1] 42)).drew.below b3 (R1.out.alloc (.cells #[.int .u64 1] 42)).drew.lt)
         have Q3 := Lib.hid ((R2.out.alloc (.cells #[.int .u64 1] 42)).drew.below b3 (R2.out.alloc (.cells #[.int .u64 1] 42)).drew.lt)
         have B3 := Lib.hid (bl_call (bl_drew (bl_alloc (Below.refl W.heap.size W) (.cells #[.int .u64 1] 42))) b3)
         have e5 : w3.cell? ⟨W.heap.size, 0, none⟩ = some (.int .u64 1) := ((rowAt.made W 42 [.int .u64 1]).drew.below b3 (by simp)).cell 0
         obtain ⟨y0, y1, y2, y3⟩ := cells4 R3.out
         have G3 := Lib.hid (cells4 (R3.out.alloc (.cells #[.int .u64 1] 42)))
         clear b3)
      | (go_at_call 59
         with_reducible refine (repeatW_any (x := 1) (n := j) (by omega) e5).mono ?_
         rintro e w4 ⟨rfl, r4, b4⟩
         have R4 := Lib.hid r4
         have S4 := Lib.hid (R3.out.below b4 R3.out.lt)
         have Q4 := Lib.hid (Q3.out.below b4 Q3.out.lt)
         have B4 := Lib.hid (bl_call (bl_call BW.out (B3.out)) b4)
         have LO := Lib.hid (show w.heap.size + 1 < w3.heap.size from by have := BW.out.size; have := B3.out.size; omega)
         obtain ⟨z0, z1, z2, z3⟩ := cells4 S4.out
         obtain ⟨x0, x1, x2, x3⟩ := cells4 Q4.out
         have f0 := Q4.out.free 0
         have f1 := Q4.out.free 1
         have f2 := Q4.out.free 2
         have f3 := Q4.out.free 3
         have l4 := Q4.out.lt
         clear r4 b4)
      | (go_at_call 59
         with_reducible refine (repeatW_any (x := 1) (n := j) (by omega) ((rowAt.made w3 42 [.int .u64 1]).cell 0)).mono ?_
         rintro e w4 ⟨rfl, r4, b4⟩
         have R4 := Lib.hid r4
         have S4 := Lib.hid ((R3.out.alloc (.cells #[.int .u64 1] 42)).below b4 (R3.out.alloc (.cells #[.int .u64 1] 42)).lt)
         have Q4 := Lib.hid ((Q3.out.alloc (.cells #[.int .u64 1] 42)).below b4 (Q3.out.alloc (.cells #[.int .u64 1] 42)).lt)
         have B4 := Lib.hid (bl_call (bl_call BW.out (bl_alloc B3.out (.cells #[.int .u64 1] 42))) b4)
         have LO := Lib.hid (show w.heap.size + 1 < (w3.alloc (.cells #[.int .u64 1] 42)).heap.size from by have := BW.out.size; have := B3.out.size; simp; omega)
         obtain ⟨z0, z1, z2, z3⟩ := cells4 S4.out
         obtain ⟨x0, x1, x2, x3⟩ := cells4 Q4.out
         have f0 := Q4.out.free 0
         have f1 := Q4.out.free 1
         have f2 := Q4.out.free 2
         have f3 := Q4.out.free 3
         have l4 := Q4.out.lt
         clear r4 b4))
  all_goals
    go_wp2
    obtain ⟨rb, hrb⟩ : ∃ rb, rb = w4.heap.size := ⟨_, rfl⟩
    first
      | (refine bodyPost_ret (v := .agg #[.int .i64 k, .int .i64 t, .slice (some ⟨w3.heap.size, 0, none⟩) j j, .string s]) ?_ rfl ⟨_, rfl, ?_, ?_, ?_⟩; focus (simp [results, Tryz.results38, go_sem, x0, x1, x2, x3, l4]; done))
      | (refine bodyPost_ret (v := .agg #[.int .i64 k, .int .i64 t, .slice (some ⟨w3.heap.size + 1, 0, none⟩) j j, .string s]) ?_ rfl ⟨_, rfl, ?_, ?_, ?_⟩; focus (simp [results, Tryz.results38, go_sem, x0, x1, x2, x3, l4]; done))
    · have := LO.out; first | omega | (simp at this; omega)
    · refine rowAt.upon (S := fun q => q = w.heap.size + 1) (w := w4) ?_ ?_ ?_
      · first | exact R4.out | (have := R4.out; simpa using this)
      · repeat (first | exact Upon.refl _ _ | refine Upon.trans (T := fun q => q = w.heap.size + 1) ?_ (Upon.setCell _ _ (by rfl)) (fun _ _ h => h))
      · have := LO.out; first | omega | (simp at this; omega)
    · repeat (first | exact B4.out | refine bl_set ?_ (by simp) _)
end Go.Proofs.YtnjpjhlodamanaaGreatDoor

/-
  Package data: one cell's object is laid ('lay').
  Conditions: as each states.
-/
namespace Go.Proofs.YtnjpjhlodamanaaGreatDoor
set_option linter.unusedVariables false
set_option linter.unusedSimpArgs false
open Go.ChangeShapes Go.WideShapes Go.ChangeAt Go.RowKit
set_option maxRecDepth 100000

/-- What 'lay' tells. -/
def LayT (base half space top : Int) (obs : List Ob) (c : PCe) (p : Nat) (F : Nat → Prop) (w : World) (e : Ending) (w' : World) : Prop :=
  ∃ A', e = .returned (.tuple #[heapV base half space (top + (wordsC c : Nat)), .int .u64 (wordOf (space * half) (flat obs).length c)]) ∧ Held w' p F A' ∧ Step F F w w' ∧ A'.objs base half space (top + (wordsC c : Nat)) = some (obs ++ newO c)
theorem objs_top {A : Ar} (ok : A.Ok) {base half space top : Int} {obs : List Ob} (h : A.objs base half space top = some obs) : top = ((flat obs).length : Int) ∧ 0 ≤ space * half ∧ space * half ≤ 2000 ∧ top ≤ half ∧ half ≤ 2000 := by
  obtain ⟨_, _, h3, h4⟩ := objs_ok ok h
  have hn := lies_nums h4
  have hl := semi_length ok h4
  rw [h3] at hl
  omega
set_option maxHeartbeats 16000000 in
theorem lay_num {w : World} {p : Nat} {F : Nat → Prop} {A : Ar} (hA : Held w p F A) (base half space top : Int) {obs : List Ob} (ho : A.objs base half space top = some obs) (n : Int) :
    Calls Tryz.prog 30 #[.pointer (some ⟨p, 0, none⟩), heapV base half space top, .agg #[.int .i64 0, .int .i64 0, .int .i64 n, .string ⟨#[]⟩]] w (LayT base half space top obs (numCe n) p F w) := by
  have FIN := Lib.hid (show ∀ w', Below w.heap.size w w' → LayT base half space top obs (numCe n) p F w (.returned (.tuple #[heapV base half space top, .int .u64 (wInt n)])) w' from fun w' hb => by
    refine ⟨A, ?_, hA.below hb, Step.of_below hb, ?_⟩
    · have e : wordsC (numCe n) = 0 := wordsC_num _ _ _
      rw [e]
      unfold wordOf numCe
      simp
    · have e : wordsC (numCe n) = 0 := wordsC_num _ _ _
      rw [e]
      unfold newO numCe
      simpa using ho)
  clear ho hA
  go_enter Tryz.func30, Tryz.ntmps30
  go_wp2_with fail
  obtain ⟨W, hW⟩ : ∃ W, W = ((w.alloc (.cells #[.int .i64 base, .int .i64 half, .int .i64 space, .int .i64 top] 24)).alloc (.cells #[.int .i64 0, .int .i64 0, .int .i64 n, .string ⟨#[]⟩] 51)).alloc (.cells #[.int .i64 0, .int .i64 0, .int .i64 0, .int .i64 0] 24) := ⟨_, rfl⟩
  rw [← hW]
  have r1 : rowAt W w.heap.size 24 [.int .i64 base, .int .i64 half, .int .i64 space, .int .i64 top] := by rw [hW]; exact ((rowAt.made _ _ _).alloc _).alloc _
  have r2 : rowAt W (w.heap.size + 1) 51 [.int .i64 0, .int .i64 0, .int .i64 n, .string ⟨#[]⟩] := by rw [hW]; exact (rowAt.made_at _ _ (by simp)).alloc _
  have r3 : rowAt W (w.heap.size + 2) 24 [.int .i64 0, .int .i64 0, .int .i64 0, .int .i64 0] := by rw [hW]; exact rowAt.made_at _ _ (by simp)
  have BW := Lib.hid (show Below w.heap.size w W by rw [hW]; exact bl_alloc (bl_alloc (bl_alloc (Below.refl _ _) _) _) _)
  obtain ⟨d0, d1, d2, d3⟩ := cells4 r1
  obtain ⟨x0, x1, x2, x3⟩ := cells4 r2
  obtain ⟨z0, z1, z2, z3⟩ := cells4 r3
  have f0 := r3.free 0
  have f1 := r3.free 1
  have f2 := r3.free 2
  have f3 := r3.free 3
  have l3 := r3.lt
  clear hW r1 r2 r3
  go_region_with (go_at_call 54; refine (int_any _ _).mono ?_; rintro e w3 ⟨rfl, rfl⟩)
  all_goals
    go_wp2_with fail
    refine bodyPost_ret (v := .tuple #[heapV base half space top, .int .u64 (wInt n)]) ?_ rfl (FIN.out _ ?_)
    · simp [results, Tryz.results30, go_sem, z0, z1, z2, z3, l3]
    · repeat (first | exact BW.out | refine bl_set ?_ (by first | (simp; done) | (simp; omega)) _ | refine bl_drew ?_ | refine bl_drewN ?_ _)
theorem readsOff_new {w : World} {F : Nat → Prop} {g : Nat} {T : TypeId} {xs : List Int} (h : rowAt w g T (wordsL xs)) (hF : ¬ F g) : ReadsOff w F (some ⟨g, 0, none⟩) xs := fun j u hj => by
  refine ⟨g, 0, rfl, hF, ?_⟩
  rw [h.cell, Nat.zero_add]
  exact hj
theorem upon_set4 {S : Nat → Prop} {w : World} {b : Nat} (hb : S b) {a c d e : Value} : Upon S w ((((w.setCell ⟨b, 0, none⟩ a).setCell ⟨b, 1, none⟩ c).setCell ⟨b, 2, none⟩ d).setCell ⟨b, 3, none⟩ e) :=
  (((Upon.setCell _ _ hb).trans (Upon.setCell _ _ hb) fun _ _ h => h).trans (Upon.setCell _ _ hb) fun _ _ h => h).trans (Upon.setCell _ _ hb) fun _ _ h => h
theorem upon_set8 {S : Nat → Prop} {w : World} {b b' : Nat} (hb : S b) (hb' : S b') {a c d e a' c' d' e' : Value} : Upon S w ((((((((w.setCell ⟨b, 0, none⟩ a).setCell ⟨b, 1, none⟩ c).setCell ⟨b, 2, none⟩ d).setCell ⟨b, 3, none⟩ e).setCell ⟨b', 0, none⟩ a').setCell ⟨b', 1, none⟩ c').setCell ⟨b', 2, none⟩ d').setCell ⟨b', 3, none⟩ e') :=
  (upon_set4 hb).trans (upon_set4 hb') fun _ _ h => h
theorem repL_words (n : Nat) : repL n 1 = wordsL (List.replicate n 1) := by simp [repL]
theorem put_laid {A : Ar} {base half space top : Int} {obs : List Ob} {c : PCe} (hg : goodC c = true) (h0 : c.1 ≠ 0) (ok : A.Ok) (ho : A.objs base half space top = some obs) (hr : (wordsC c : Int) ≤ half - top) : A.putOk base half space top (obC c) = true := by
  unfold Ar.putOk
  rw [ho, obC_may hg h0, wordsC_obC hg h0]
  simp only [Bool.true_and, Bool.and_eq_true, decide_eq_true_eq, List.all_eq_true]
  refine ⟨fun x hx => ?_, hr⟩
  simp only [obC] at hx
  obtain rfl := List.eq_of_mem_replicate hx
  unfold fieldOk
  rw [show wIs 1 = true by rfl, Bool.or_true]
set_option maxHeartbeats 16000000 in
theorem lay_obj {w : World} {p : Nat} {F : Nat → Prop} {A : Ar} (hA : Held w p F A) (base half space top : Int) {obs : List Ob} (ho : A.objs base half space top = some obs) (k t n : Int) (s : ByteArray) (hg : goodC (k, t, n, s) = true) (h0 : k ≠ 0) (hr : (wordsC (k, t, n, s) : Int) ≤ half - top) :
    Calls Tryz.prog 30 #[.pointer (some ⟨p, 0, none⟩), heapV base half space top, .agg #[.int .i64 k, .int .i64 t, .int .i64 n, .string s]] w (LayT base half space top obs (k, t, n, s) p F w) := by
  obtain ⟨j, hj⟩ : ∃ j : Nat, hasC (k, t, n, s) = (j : Int) := ⟨(hasC (k, t, n, s)).toNat, by have := hasC_nn hg; omega⟩
  have hj8 : j ≤ 8 := by have := hasC_nn hg; omega
  have hob : obC (k, t, n, s) = ⟨k, t, List.replicate j 1, s.data.toList⟩ := by unfold obC; rw [hj]; rfl
  have FIN := Lib.hid (show ∀ w', Held w' p F (A.puts base (space * half + top) (obC (k, t, n, s)).lay) → Step F F w w' → LayT base half space top obs (k, t, n, s) p F w (.returned (.tuple #[heapV base half space (top + (wordsC (k, t, n, s) : Nat)), .int .u64 (wPlace (space * half + top))])) w' from fun w' hh hs => by
    refine ⟨_, ?_, hh, hs, ?_⟩
    · obtain ⟨h1, _⟩ := objs_top hA.ok ho
      unfold wordOf
      rw [if_neg h0, h1]
    · have := objs_put hA.ok ho (put_laid hg h0 hA.ok ho hr) (obC_fit _)
      rw [wordsC_obC hg h0] at this
      rw [this]
      unfold newO
      rw [if_neg h0])
  have PUT := Lib.hid (fun (W : World) (a : Option Addr) (cap : Nat) (hh : Held W p F A) (hv : ReadsOff W F a (List.replicate j 1)) => put_any hh base half space top k t a (List.replicate j 1) cap s hv (fun x hx => by obtain rfl := List.eq_of_mem_replicate hx; exact ⟨by decide, by decide⟩))
  have OK := Lib.hid (put_laid hg h0 hA.ok ho hr)
  have WO := Lib.hid (wordsC_obC hg h0)
  rw [hob] at OK WO FIN
  obtain ⟨q, hq⟩ : ∃ q : Nat, wordsC (k, t, n, s) = q := ⟨_, rfl⟩
  rw [hq] at WO FIN
  simp only [List.length_replicate] at PUT
  have HA := Lib.hid hA
  have HLT := Lib.hid hA.lt
  have HJ := Lib.hid hj
  have k0 : (k == 0) = false := beq_eq_false_iff_ne.2 h0
  clear hg h0 hr ho hA hob hj hq
  obtain ⟨W, hW⟩ : ∃ W, W = ((w.alloc (.cells #[.int .i64 base, .int .i64 half, .int .i64 space, .int .i64 top] 24)).alloc (.cells #[.int .i64 k, .int .i64 t, .int .i64 n, .string s] 51)).alloc (.cells #[.int .i64 0, .int .i64 0, .int .i64 0, .int .i64 0] 24) := ⟨_, rfl⟩
  have r1 : rowAt W w.heap.size 24 [.int .i64 base, .int .i64 half, .int .i64 space, .int .i64 top] := by rw [hW]; exact ((rowAt.made _ _ _).alloc _).alloc _
  have r2 : rowAt W (w.heap.size + 1) 51 [.int .i64 k, .int .i64 t, .int .i64 n, .string s] := by rw [hW]; exact (rowAt.made_at _ _ (by simp)).alloc _
  have r3 : rowAt W (w.heap.size + 2) 24 [.int .i64 0, .int .i64 0, .int .i64 0, .int .i64 0] := by rw [hW]; exact rowAt.made_at _ _ (by simp)
  have BW := Lib.hid (show Below w.heap.size w W by rw [hW]; exact bl_alloc (bl_alloc (bl_alloc (Below.refl _ _) _) _) _)
  have R1 := Lib.hid r1
  have R2 := Lib.hid r2
  have R3 := Lib.hid r3
  obtain ⟨d0, d1, d2, d3⟩ := cells4 r1
  obtain ⟨x0, x1, x2, x3⟩ := cells4 r2
  have l3 := r3.lt
  clear r1 r2 r3
  go_enter Tryz.func30, Tryz.ntmps30
  go_wp2_with fail
  rw [← hW]
  clear hW
  go_region_with
    (first
      | (go_at_call 38
         refine (objectOf_any k t n s j HJ.out hj8 _).mono ?_
         rintro e w3 ⟨rb, rfl, hrb, hrow, b3⟩
         have S1 := Lib.hid (R1.out.drew.below b3 R1.out.lt)
         have S2 := Lib.hid (R2.out.drew.below b3 R2.out.lt)
         have S3 := Lib.hid (R3.out.drew.below b3 R3.out.lt)
         have B3 := Lib.hid (bl_call (bl_drew BW.out) b3)
         have H3 := Lib.hid (HA.out.below B3.out)
         have V3 := Lib.hid (readsOff_new (T := 42) (xs := List.replicate j 1) (F := F) (by have := hrow; rwa [repL_words] at this) (fun hf => by have := HLT.out _ hf; have := BW.out.size; simp at hrb; omega))
         obtain ⟨v0, v1, v2, v3⟩ := cells4 S1.out
         have m3 := S1.out.lt
         clear hrb hrow b3)
      | (go_at_call 55
         refine (PUT.out _ _ _ H3.out V3.out).mono ?_
         rintro e w4 ⟨hs, hp⟩
         obtain ⟨rfl, hh⟩ : e = .returned (.tuple #[heapV base half space (top + (q : Int)), .int .u64 (wPlace (space * half + top)), .bool true]) ∧ Held w4 p F (A.puts base (space * half + top) (Ob.lay ⟨k, t, List.replicate j 1, s.data.toList⟩)) := by
           rcases hp with ⟨_, he, hh⟩ | ⟨h3, _⟩
           · rw [WO.out] at he; exact ⟨he, hh⟩
           · rw [OK.out] at h3; cases h3
         have H4 := Lib.hid hh
         have U4 := Lib.hid ((Step.of_below (F := F) B3.out).chain hs)
         have nF : ∀ k, w.heap.size ≤ k → ¬ F k := fun k hk hf => by have := HLT.out _ hf; omega
         have T1 := Lib.hid (S1.out.upon hs.upon (nF _ (by omega)))
         have T2 := Lib.hid (S2.out.upon hs.upon (nF _ (by omega)))
         have T3 := Lib.hid (S3.out.upon hs.upon (nF _ (by omega)))
         obtain ⟨y0, y1, y2, y3⟩ := cells4 T1.out
         obtain ⟨z0, z1, z2, z3⟩ := cells4 T3.out
         have g0 := T1.out.free 0
         have g1 := T1.out.free 1
         have g2 := T1.out.free 2
         have g3 := T1.out.free 3
         have f0 := T3.out.free 0
         have f1 := T3.out.free 1
         have f2 := T3.out.free 2
         have f3 := T3.out.free 3
         have l4 := T3.out.lt
         have l5 := T1.out.lt
         clear hs hp hh nF))
  all_goals
    go_wp2_with fail
    refine bodyPost_ret (v := .tuple #[heapV base half space (top + (q : Int)), .int .u64 (wPlace (space * half + top))]) ?_ rfl (FIN.out _ (H4.out.upon (S := fun k => w.heap.size ≤ k) ?_ (fun k hf hk => by have := HLT.out _ hf; omega)) ⟨U4.out.upon.trans (T := fun k => w.heap.size ≤ k) ?_ (fun i hi ht => by omega), fun k hf => .inl hf⟩)
    · simp [results, Tryz.results30, go_sem, z0, z1, z2, z3, l4, l5]
    · exact upon_set8 (by show w.heap.size ≤ _; omega) (by show w.heap.size ≤ _; omega)
    · exact upon_set8 (by show w.heap.size ≤ _; omega) (by show w.heap.size ≤ _; omega)
theorem lay_any' {w : World} {p : Nat} {F : Nat → Prop} {A : Ar} (hA : Held w p F A) (base half space top : Int) {obs : List Ob} (ho : A.objs base half space top = some obs) (c : PCe) (hg : goodC c = true) (hr : (wordsC c : Int) ≤ half - top) :
    Calls Tryz.prog 30 #[.pointer (some ⟨p, 0, none⟩), heapV base half space top, .agg #[.int .i64 c.1, .int .i64 c.2.1, .int .i64 c.2.2.1, .string c.2.2.2]] w (LayT base half space top obs c p F w) := by
  by_cases h0 : c.1 = 0
  · obtain ⟨e, _⟩ := num_cell hg h0
    rw [e]
    exact lay_num hA base half space top ho _
  · exact lay_obj hA base half space top ho _ _ _ _ hg h0 hr
end Go.Proofs.YtnjpjhlodamanaaGreatDoor

/-
  Package data: the gaps of a cell ('gaps').
  Conditions: as each states.
-/
namespace Go.Proofs.YtnjpjhlodamanaaGreatDoor
set_option linter.unusedVariables false
set_option linter.unusedSimpArgs false
open Go.ChangeShapes Go.WideShapes Go.ChangeAt Go.RowKit
set_option maxRecDepth 100000

def gapC (u : Int) (f : Nat) : List Value := [.int .u64 u, .int .i64 f]
def gapDn (u : Int) (j k : Nat) : List Value := (List.range k).flatMap fun i => gapC u (j - 1 - i)
theorem gapDn_step (u : Int) (j k : Nat) : gapDn u j (k + 1) = gapDn u j k ++ gapC u (j - 1 - k) := by
  simp [gapDn, List.range_succ]
/-- What 'gaps' leaves. -/
def GapT (g n : Nat) (xs : List Value) (u : Int) (j : Nat) (w : World) (e : Ending) (w' : World) : Prop :=
  e = .returned (.slice (some ⟨g, 0, none⟩) (n + j) 100) ∧ roomA w' g 78 2 (n + j) (xs ++ gapDn u j j) ∧ Upon (fun q => q = g) w w'
theorem under_gaps : Tryz.prog.underlying 79 = some (.slice 77) := by kernel_rfl
theorem info_gap : (Tryz.prog.info? 77).map (fun i => (i.zero, i.size, i.bytes)) = some (some (.agg #[.int .u64 0, .int .i64 0]), 2, 16) := by kernel_rfl
theorem gap_one (u : Int) (f : Nat) : ∀ v ∈ gapC u f, v.oneCell' = true := by
  intro v hv
  simp only [gapC, List.mem_cons, List.not_mem_nil, or_false] at hv
  rcases hv with rfl | rfl <;> rfl
set_option maxHeartbeats 8000000 in
theorem gaps_any {w : World} {g n : Nat} {xs : List Value} (hT : roomA w g 78 2 n xs) (u : Int) (ck ct cn : Int) (cs : ByteArray) (j : Nat) (hj : hasC (ck, ct, cn, cs) = (j : Int)) (hn : n + j ≤ 100) :
    Calls Tryz.prog 31 #[.slice (some ⟨g, 0, none⟩) n 100, .int .u64 u, .agg #[.int .i64 ck, .int .i64 ct, .int .i64 cn, .string cs]] w (GapT g n xs u j w) := by
  obtain ⟨ig, hig, hg0, hg1, hg2⟩ := info_parts info_gap
  have HJ := Lib.hid hj
  clear hj
  obtain ⟨W0, hW0⟩ : ∃ W0, w.alloc (.cells #[.int .i64 ck, .int .i64 ct, .int .i64 cn, .string cs] 51) = W0 := ⟨_, rfl⟩
  have r0 : rowAt W0 w.heap.size 51 [.int .i64 ck, .int .i64 ct, .int .i64 cn, .string cs] := by rw [← hW0]; exact rowAt.made _ _ _
  have b0 : Below w.heap.size w W0 := by rw [← hW0]; exact bl_alloc (Below.refl _ _) _
  have T0 := Lib.hid (hT.below b0)
  have U0 := Lib.hid (show Upon (fun q => q = g) w W0 from Upon.of_below b0)
  obtain ⟨d0, d1, d2, d3⟩ := cells4 r0
  have hgl := hT.lt
  clear hT r0 b0
  go_enter Tryz.func31, Tryz.ntmps31
  go_wp2_with fail
  clear hW0
  refine (dhas_is HJ.out _).mono ?_
  rintro e w1 ⟨rfl, b1⟩
  have T1 := Lib.hid (T0.out.below b1)
  have U1 := Lib.hid (U0.out.trans (Upon.of_below (S := fun _ => False) b1) (fun _ _ h => h.elim))
  clear b1 d0 d1 d2 d3
  go_wp2_with fail
  go_loopw [0, 7] (fun v i wr => ∃ k : Nat, k ≤ j ∧ v = .slice (some ⟨g, 0, none⟩) (n + k) 100 ∧ i = .int .i64 ((j : Int) - 1 - k) ∧ Hid (roomA wr g 78 2 (n + k) (xs ++ gapDn u j k)) ∧ Hid (Upon (fun q => q = g) w wr)) (fun v _ _ => 101 - lenV v)
  case atStart => exact ⟨0, Nat.zero_le _, rfl, by go_num, Lib.hid (by simpa [gapDn] using T1.out), U1⟩
  case round =>
    obtain ⟨k, hk, rfl, rfl, HT, HU⟩ := hrel
    by_cases hlt : k < j
    · obtain ⟨f, hf⟩ : ∃ f : Nat, j - 1 - k = f := ⟨_, rfl⟩
      have hfI : (j : Int) - 1 - k = (f : Int) := by omega
      have hf0 : (0 : Int) ≤ (f : Int) := by omega
      have hf2 : (f : Int) - 1 = (j : Int) - 1 - ((k + 1 : Nat) : Int) := by omega
      have hwr : IntKind.i64.wrap ((f : Int) - 1) = (f : Int) - 1 := by rw [IntKind.wrap_i64]; omega
      rw [hfI]
      have E := Lib.hid (gapDn_step u j k)
      rw [hf] at E
      have F2 := Lib.hid hf2
      obtain ⟨WA, hWA⟩ : ∃ WA, wr.alloc (.cells #[.int .u64 u, .int .i64 (f : Int)] 77) = WA := ⟨_, rfl⟩
      have bA : Below wr.heap.size wr WA := by rw [← hWA]; exact bl_alloc (Below.refl _ _) _
      have TA := Lib.hid (HT.out.below bA)
      have RA := Lib.hid (show rowAt WA wr.heap.size 77 (gapC u f) by rw [← hWA]; exact rowAt.made _ _ _)
      have UA := Lib.hid (HU.out.trans (Upon.of_below (S := fun _ => False) bA) (fun _ _ h => h.elim))
      clear bA hfI hf hf2
      go_wp2_with (at_builtin; refine wpList_append_in (by rfl) _ _ _ (by rfl) 77 ig 2 under_gaps hig hg1 TA.out (by rfl) (some ⟨wr.heap.size, 0, none⟩) 1 1 (gapC u f) (by rfl) (by rfl) (row_srcD RA.out 1) (gap_one u f) (by omega) ?_; intro w7 ht7 hu7; have T7 := Lib.hid ht7; have U7 := Lib.hid hu7; clear ht7 hu7)
      go_roundw
      case rel => exact ⟨k + 1, by omega, by rw [Nat.add_assoc], by have := F2.out; go_num, Lib.hid (by have := T7.out; rw [List.append_assoc, ← E.out] at this; exact this), Lib.hid (UA.out.trans U7.out (fun _ _ h => h))⟩
      case measure => simp [lenV]; omega
    · obtain rfl : k = j := by omega
      have hneg : (k : Int) - 1 - k = -1 := by omega
      rw [hneg]
      clear hneg hlt
      go_wp2_with fail
      go_ret
      exact ⟨rfl, HT.out, HU.out⟩
end Go.Proofs.YtnjpjhlodamanaaGreatDoor
