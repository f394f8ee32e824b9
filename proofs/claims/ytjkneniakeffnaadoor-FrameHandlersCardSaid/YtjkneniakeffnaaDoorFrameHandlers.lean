/-
  For every number and row of codes the law FrameHandlers returns true, and its arguments read as they did. Condition: the three tables of package op read when the call begins as the program's text lays them (the card ties them).
-/
import Derived.Test.YtjkneniakeffnaaDoorFwk
import Derived.Test.YtjkneniakeffnaaDoorArgs
import Derived.Test.YtjkneniakeffnaaDoorTie
import Derived.Test.YtjkneniakeffnaaDoorCards
import Derived.SevenTiedAt
import Derived.LaidMore
import Derived.Stop.Joined
namespace Go.Proofs.YtjkneniakeffnaaDoor.frameHandlers
open Go.ChangeShapes Go.WideShapes Go.ChangeAt Go.RowKit
set_option linter.unusedVariables false
set_option linter.unusedSimpArgs false
set_option linter.unusedVariables false
set_option maxRecDepth 100000

theorem own : ownKnob Tryd.prog.godebug = none := by kernel_rfl
theorem laidOut : laidOutB Tryd.prog = true := by kernel_rfl

def hs (n : Nat) : List PHd := (List.range n).map fun i : Nat => ((1 : Int), (i : Int), (i : Int))
def nums (n : Nat) : List Int := (List.range n).map fun i : Nat => wInt (i : Int)
theorem hs_length (n : Nat) : (hs n).length = n := by simp [hs]
theorem nums_length (n : Nat) : (nums n).length = n := by simp [nums]
theorem hs_succ (n : Nat) : hs (n + 1) = hs n ++ [(1, (n : Int), (n : Int))] := by simp [hs, List.range_succ]
theorem nums_succ (n : Nat) : nums (n + 1) = nums n ++ [wInt (n : Int)] := by simp [nums, List.range_succ]
/-- The law's machine with so many handlers left. -/
structure Left (j : Nat) (M : PMa) : Prop where
  z0 : M.z0 = 0
  z1 : M.z1 = 0
  z2 : M.z2 = 0
  z3 : M.z3 = 0
  hd : M.hd = hs j
  st : ∃ r, M.st = nums j ++ r ∧ r.length ≤ 1
  fr : ∃ pc, M.fr = [(0, pc, 0, 0)]
  state : M.state = 0
  res : M.res = 1
  code : M.code = 0
theorem left_fit {j : Nat} {M : PMa} (h : Left j M) (hj : j ≤ 20) : maF M := by
  obtain ⟨r, e, hr⟩ := h.st
  obtain ⟨pc, e2⟩ := h.fr
  exact ⟨by rw [e, List.length_append, nums_length]; omega, by rw [e2]; simp, by rw [h.hd, hs_length]; omega⟩
theorem left_none {M : PMa} (h : Left 0 M) (c : Int) : throwP M c = ⟨0, 0, 0, 0, [], [], [], 3, 1, wWrap c⟩ := by
  have e : M.hd = [] := h.hd.trans rfl
  obtain ⟨z0, z1, z2, z3, st, fr, hd, sta, res, cod⟩ := M
  obtain ⟨e0, e1, e2, e3, -, -, -, -, e4, -⟩ := h
  simp only at e e0 e1 e2 e3 e4
  subst e e0 e1 e2 e3 e4
  rfl
def nextM (j : Nat) (c : Int) : PMa := ⟨0, 0, 0, 0, nums j ++ [wInt c], [(0, (j : Int), 0, 0)], hs j, 0, 1, 0⟩
theorem left_next {j : Nat} {M : PMa} (h : Left (j + 1) M) (c : Int) : throwP M c = nextM j c := by
  obtain ⟨z0, z1, z2, z3, st, fr, hd, sta, res, cod⟩ := M
  obtain ⟨e0, e1, e2, e3, e5, ⟨r, e6, -⟩, ⟨pc, e7⟩, e8, e9, e10⟩ := h
  simp only at e0 e1 e2 e3 e5 e6 e7 e8 e9 e10
  subst e0 e1 e2 e3 e5 e6 e7 e8 e9 e10
  have hl : (hs (j + 1)).getLast? = some (1, (j : Int), (j : Int)) := by rw [hs_succ]; simp
  have hok : thOk ⟨0, 0, 0, 0, nums (j + 1) ++ r, [(0, pc, 0, 0)], hs (j + 1), 0, 1, 0⟩ (1, (j : Int), (j : Int)) = true := by
    simp only [thOk, Bool.and_eq_true, inF_iff, List.length_append, nums_length, List.length_cons, List.length_nil]
    omega
  unfold throwP
  simp only [hl, if_pos hok, thTo, nextM]
  have e1 : (nums (j + 1) ++ r).take ((j : Int)).toNat = nums j := by
    rw [nums_succ, List.append_assoc, Int.toNat_natCast, List.take_left' (nums_length j)]
  rw [e1, hs_succ, List.dropLast_concat]
  rfl
theorem left_M (j : Nat) (c : Int) : Left j (nextM j c) := ⟨rfl, rfl, rfl, rfl, rfl, ⟨_, rfl, Nat.le_refl 1⟩, ⟨_, rfl⟩, rfl, rfl, rfl⟩

/-- The machine while its stack and handlers grow. -/
structure L1 (W wr : World) (j l : Nat) (sa : Option Addr) (sc : Nat) (ha : Option Addr) (hc : Nat) : Prop where
  rm : rowAt wr (W.heap.size + 1) 34 [.int .i64 0, .int .i64 0, .int .i64 0, .int .i64 0, .slice sa j sc, .slice (some ⟨W.heap.size, 0, none⟩) 1 1, .slice ha l hc, .int .i64 0, .int .u64 1, .int .i64 0]
  rf : rowAt wr W.heap.size 27 [.int .i64 0, .int .i64 0, .int .i64 0, .int .u64 0]
  os : wr.ownsRow (W.heap.size + 2) 24 1 (.slice sa j sc) j (wdL (nums j))
  oh : wr.ownsRow (W.heap.size + 2) 36 3 (.slice ha l hc) l (hdL (hs l))
  ap : ∀ g, (Value.slice sa j sc).ownBlock = some g → (Value.slice ha l hc).ownBlock ≠ some g
  hb : Below W.heap.size W wr
theorem L1.stack {W wr X w2 : World} {j l : Nat} {sa a2 ha : Option Addr} {sc c2 hc : Nat} (h : L1 W wr j l sa sc ha hc) (hX : Below wr.heap.size wr X)
    (ho : w2.ownsRow (W.heap.size + 2) 24 1 (.slice a2 (j + 1) c2) (j + 1) (wdL (nums j) ++ [.int .u64 (wInt (j : Int))])) (hg : X.grownBy w2 (Value.slice sa j sc).ownBlock)
    (hn : (Value.slice a2 (j + 1) c2).ownBlock = (Value.slice sa j sc).ownBlock ∨ (Value.slice a2 (j + 1) c2).ownBlock = some X.heap.size) :
    rowAt w2 (W.heap.size + 1) 34 [.int .i64 0, .int .i64 0, .int .i64 0, .int .i64 0, .slice sa j sc, .slice (some ⟨W.heap.size, 0, none⟩) 1 1, .slice ha l hc, .int .i64 0, .int .u64 1, .int .i64 0] ∧ L1 W (w2.setCell ⟨W.heap.size + 1, 4, none⟩ (.slice a2 (j + 1) c2)) (j + 1) l a2 c2 ha hc := by
  have hu : Upon (fun k => (Value.slice sa j sc).ownBlock = some k) wr w2 := (Upon.of_below hX).trans (Upon.grown (S := fun k => (Value.slice sa j sc).ownBlock = some k) hg fun k hk => hk) (fun i _ h => h)
  have fs : ∀ g, (Value.slice sa j sc).ownBlock = some g → W.heap.size + 2 ≤ g := fun g hg => (own_ge h.os g hg).1
  have r1 := h.rm.upon hu (fun e => by have := fs _ e; omega)
  refine ⟨r1, r1.set 4 _, (h.rf.upon hu (fun e => by have := fs _ e; omega)).other _ _ (by simp), ?_, ?_, ?_, down_set (h.hb.trans (hu.belowB h.hb.size fun k hk => by have := fs k hk; omega)) (by simp) _⟩
  · rw [nums_succ, show wdL (nums j ++ [wInt (j : Int)]) = wdL (nums j) ++ [.int .u64 (wInt (j : Int))] by simp]
    exact owns_upon ho (Upon.setCell (S := fun k => k = W.heap.size + 1) _ _ rfl) fun g hg e => by have := (own_ge ho g hg).1; omega
  · exact owns_upon (owns_upon h.oh hu fun g hg e => h.ap g e hg) (Upon.setCell (S := fun k => k = W.heap.size + 1) _ _ rfl) fun g hg e => by have := (own_ge h.oh g hg).1; omega
  · intro g hg
    rcases hn with e | e
    · exact h.ap g (e ▸ hg)
    · intro e2
      rw [e] at hg
      cases hg
      have := (own_ge h.oh _ e2).2
      have := hX.size
      omega
theorem L1.hand {W wr X w2 : World} {j l : Nat} {sa a2 ha : Option Addr} {sc c2 hc : Nat} (h : L1 W wr j l sa sc ha hc) (hX : Below wr.heap.size wr X)
    (ho : w2.ownsRow (W.heap.size + 2) 36 3 (.slice a2 (l + 1) c2) (l + 1) (hdL (hs l) ++ [.int .i64 1, .int .i64 (l : Int), .int .i64 (l : Int)])) (hg : X.grownBy w2 (Value.slice ha l hc).ownBlock)
    (hn : (Value.slice a2 (l + 1) c2).ownBlock = (Value.slice ha l hc).ownBlock ∨ (Value.slice a2 (l + 1) c2).ownBlock = some X.heap.size) :
    rowAt w2 (W.heap.size + 1) 34 [.int .i64 0, .int .i64 0, .int .i64 0, .int .i64 0, .slice sa j sc, .slice (some ⟨W.heap.size, 0, none⟩) 1 1, .slice ha l hc, .int .i64 0, .int .u64 1, .int .i64 0] ∧ L1 W (w2.setCell ⟨W.heap.size + 1, 6, none⟩ (.slice a2 (l + 1) c2)) j (l + 1) sa sc a2 c2 := by
  have hu : Upon (fun k => (Value.slice ha l hc).ownBlock = some k) wr w2 := (Upon.of_below hX).trans (Upon.grown (S := fun k => (Value.slice ha l hc).ownBlock = some k) hg fun k hk => hk) (fun i _ h => h)
  have fs : ∀ g, (Value.slice ha l hc).ownBlock = some g → W.heap.size + 2 ≤ g := fun g hg => (own_ge h.oh g hg).1
  have r1 := h.rm.upon hu (fun e => by have := fs _ e; omega)
  refine ⟨r1, r1.set 6 _, (h.rf.upon hu (fun e => by have := fs _ e; omega)).other _ _ (by simp), ?_, ?_, ?_, down_set (h.hb.trans (hu.belowB h.hb.size fun k hk => by have := fs k hk; omega)) (by simp) _⟩
  · exact owns_upon (owns_upon h.os hu fun g hg e => h.ap g hg e) (Upon.setCell (S := fun k => k = W.heap.size + 1) _ _ rfl) fun g hg e => by have := (own_ge h.os g hg).1; omega
  · rw [hs_succ, show hdL (hs l ++ [(1, (l : Int), (l : Int))]) = hdL (hs l) ++ [.int .i64 1, .int .i64 (l : Int), .int .i64 (l : Int)] by simp [hdL, hdC]]
    exact owns_upon ho (Upon.setCell (S := fun k => k = W.heap.size + 1) _ _ rfl) fun g hg e => by have := (own_ge ho g hg).1; omega
  · intro g hg e2
    rcases hn with e | e
    · exact h.ap g hg (e ▸ e2)
    · rw [e] at e2
      cases e2
      have := (own_ge h.os _ hg).2
      have := hX.size
      omega
/-- The machine while its handlers are taken. -/
structure L2 (W wr : World) (l : Nat) (st : List Int) (pc : Int) (sa : Option Addr) (sc : Nat) (fa : Option Addr) (fc : Nat) (ha : Option Addr) (hc : Nat) : Prop where
  rm : rowAt wr (W.heap.size + 1) 34 [.int .i64 0, .int .i64 0, .int .i64 0, .int .i64 0, .slice sa st.length sc, .slice fa 1 fc, .slice ha l hc, .int .i64 0, .int .u64 1, .int .i64 0]
  ma : maAt (fun b => b = W.heap.size + 1) wr (.slice sa st.length sc) (.slice fa 1 fc) (.slice ha l hc) ⟨0, 0, 0, 0, st, [(0, pc, 0, 0)], hs l, 0, 1, 0⟩
  st : ∃ r, st = nums l ++ r ∧ r.length ≤ 1
  hb : Below W.heap.size W wr
theorem L2.start {W wr : World} {j : Nat} {sa : Option Addr} {sc : Nat} {ha : Option Addr} {hc : Nat} (h : L1 W wr j j sa sc ha hc) : L2 W wr j (nums j) 0 sa sc (some ⟨W.heap.size, 0, none⟩) 1 ha hc := by
  have e1 := nums_length j
  have e2 := hs_length j
  refine ⟨by rw [e1]; exact h.rm, ⟨?_, rd_row h.rf (by omega) fun _ _ e => by simpa [frL, frC] using e, ?_⟩, ⟨[], by simp, by decide⟩, h.hb⟩
  · simp only [e1]
    exact rdAt.of_owns h.os fun g hg e => by have := (own_ge h.os g hg).1; omega
  · simp only [e2]
    exact rdAt.of_owns h.oh fun g hg e => by have := (own_ge h.oh g hg).1; omega
theorem L2.left {W wr : World} {l : Nat} {st : List Int} {pc : Int} {sa : Option Addr} {sc : Nat} {fa : Option Addr} {fc : Nat} {ha : Option Addr} {hc : Nat} (h : L2 W wr l st pc sa sc fa fc ha hc) : Left l ⟨0, 0, 0, 0, st, [(0, pc, 0, 0)], hs l, 0, 1, 0⟩ :=
  ⟨rfl, rfl, rfl, rfl, rfl, h.st, ⟨pc, rfl⟩, rfl, rfl, rfl⟩
theorem rd_at {S : Nat → Prop} {w : World} {a : Option Addr} {n c m : Nat} {cs : List Value} (h : rdAt S w (.slice a n c) m cs) (h0 : m ≠ 0) : ∃ b o, a = some ⟨b, o, none⟩ ∧ ∀ j u, cs[j]? = some u → w.cell? ⟨b, o + j, none⟩ = some u := by
  obtain ⟨a', c', e, h⟩ := h
  injection e with e1 e2 e3
  subst e1
  rcases h with h | ⟨b, o, h1, -, -, h4⟩
  · exact absurd h h0
  · exact ⟨b, o, h1, h4⟩
theorem next_st (l : Nat) (x : Int) : (nextM l x).st.length ≠ 0 ∧ (wdL (nextM l x).st)[l]? = some (.int .u64 (wInt x)) := by
  refine ⟨by simp [nextM], ?_⟩
  simp [nextM, nums_length]
theorem next_fr (l : Nat) (x : Int) : (nextM l x).fr.length ≠ 0 ∧ (frL (nextM l x).fr)[1]? = some (.int .i64 (l : Int)) := ⟨by simp [nextM], rfl⟩
theorem wr_l {l : Nat} (h : l + 1 ≤ 20) : wrap64 ((l : Int) + 1) = (l : Int) + 1 := by unfold wrap64; omega
theorem lt_l (l : Nat) : decide ((l : Int) < 0) = false := decide_eq_false (by omega)
theorem L2.next {W wr : World} {l : Nat} {x : Int} {sa fa ha : Option Addr} {sc fc hc : Nat} (r : rowAt wr (W.heap.size + 1) 34 [.int .i64 0, .int .i64 0, .int .i64 0, .int .i64 0, .slice sa (l + 1) sc, .slice fa 1 fc, .slice ha l hc, .int .i64 0, .int .u64 1, .int .i64 0])
    (m : maAt (fun b => b = W.heap.size + 1) wr (.slice sa (l + 1) sc) (.slice fa 1 fc) (.slice ha l hc) (nextM l x)) (hb : Below W.heap.size W wr) (q : Nat) : L2 W (wr.drewN q) l (nums l ++ [wInt x]) l sa sc fa fc ha hc := by
  have e : (nums l ++ [wInt x]).length = l + 1 := by simp [nums_length]
  refine ⟨by rw [e]; exact r, ?_, ⟨_, rfl, Nat.le_refl 1⟩, below_draws hb q⟩
  rw [e]
  exact m.below (below_draws (Below.refl _ _) q)
theorem nl_step {n l j : Nat} (h : n + (l + 1) = j) : n + 1 + l = j := by omega
theorem throwL_0 {W w : World} {st : List Int} {pc : Int} {sa fa ha : Option Addr} {sc fc hc : Nat} (h : L2 W w 0 st pc sa sc fa fc ha hc) (x : Int) :
    Calls Tryd.prog 6 #[maV 0 0 0 0 (.slice sa st.length sc) (.slice fa 1 fc) (.slice ha 0 hc) 0 1 0, .int .i64 x] w.drew fun e w' => ∃ sa sc fa fc ha hc, e = .returned (maV 0 0 0 0 (.slice sa 0 sc) (.slice fa 0 fc) (.slice ha 0 hc) 3 1 (wWrap x)) ∧ Below w.drew.heap.size w.drew w' :=
  (throw_any ⟨0, 0, 0, 0, st, [(0, pc, 0, 0)], hs 0, 0, 1, 0⟩ x (h.ma.below (down_drew (Below.refl _ _))) (left_fit h.left (by omega))).mono fun e w' hp => by
    rw [left_none h.left] at hp
    obtain ⟨s', f', h', rfl, hm, hb⟩ := hp
    obtain ⟨sa, sc, rfl⟩ := hm.1.slice
    obtain ⟨fa, fc, rfl⟩ := hm.2.1.slice
    obtain ⟨ha, hc, e⟩ := hm.2.2
    obtain ⟨rfl, -⟩ := e
    exact ⟨sa, sc, fa, fc, ha, hc, rfl, hb⟩
theorem throwL_s {W w : World} {l : Nat} {st : List Int} {pc : Int} {sa fa ha : Option Addr} {sc fc hc : Nat} (h : L2 W w (l + 1) st pc sa sc fa fc ha hc) (hl : l + 1 ≤ 20) (x : Int) :
    Calls Tryd.prog 6 #[maV 0 0 0 0 (.slice sa st.length sc) (.slice fa 1 fc) (.slice ha (l + 1) hc) 0 1 0, .int .i64 x] w.drew fun e w' => ∃ sa sc fa fc ha hc, e = .returned (maV 0 0 0 0 (.slice sa (l + 1) sc) (.slice fa 1 fc) (.slice ha l hc) 0 1 0) ∧ maAt (fun k => k < w.heap.size) w' (.slice sa (l + 1) sc) (.slice fa 1 fc) (.slice ha l hc) (nextM l x) ∧ Below w.drew.heap.size w.drew w' :=
  (throw_any ⟨0, 0, 0, 0, st, [(0, pc, 0, 0)], hs (l + 1), 0, 1, 0⟩ x (h.ma.below (down_drew (Below.refl _ _))) (left_fit h.left hl)).mono fun e w' hp => by
    rw [left_next h.left] at hp
    obtain ⟨s', f', h', rfl, hm, hb⟩ := hp
    obtain ⟨sa, sc, e1⟩ := hm.1.slice
    obtain ⟨fa, fc, e2⟩ := hm.2.1.slice
    obtain ⟨ha, hc, e3⟩ := hm.2.2.slice
    rw [show (nextM l x).st.length = l + 1 by simp [nextM, nums_length]] at e1
    rw [show (nextM l x).hd.length = l by simp [nextM, hs_length]] at e3
    subst e1 e3
    cases e2
    exact ⟨sa, sc, fa, fc, ha, hc, rfl, hm, hb⟩
theorem one_h (a b c : Int) : ∀ v ∈ [Value.int .i64 a, .int .i64 b, .int .i64 c], v.oneCell' = true := by
  intro v hv
  simp only [List.mem_cons, List.not_mem_nil, or_false] at hv
  rcases hv with rfl | rfl | rfl <;> rfl

set_option maxHeartbeats 16000000 in
theorem walk (a0 : Int) (v1 : Value) (xs1 : List Int) (W : World) (w0 : (Lit.int .u8 a0).wf = true) (hr1 : readsAt W v1 xs1.length (xs1.map (Value.int .i64))) (hx1 : ∀ z ∈ xs1, (Lit.int .i64 z).wf = true) (hm1 : xs1.length ≤ maxLen) (TT : OpTab W) :
    Calls Tryd.prog 3 #[.int .u8 a0, v1] W fun e w' => e = .returned (.bool true) ∧ Below W.heap.size W w' := by
  obtain ⟨av, cv, rfl, hv⟩ := hr1
  obtain ⟨a, rfl⟩ : ∃ a : Nat, a0 = (a : Int) := ⟨a0.toNat, by simp [Lit.wf, IntKind.min, IntKind.max, IntKind.signed, IntKind.bits] at w0; omega⟩
  have HV := Lib.hid hv
  have ha : a < 256 := by simp [Lit.wf, IntKind.min, IntKind.max, IntKind.signed, IntKind.bits] at w0; omega
  clear w0 hv hx1
  unfold maxLen at hm1
  by_cases h25 : 25 < xs1.length
  · have t0 : decide ((25 : Int) < (xs1.length : Int)) = true := decide_eq_true (by omega)
    go_enter Tryd.func3, Tryd.ntmps3
    go_wp2_with fail
    refine (wakesF_any W TT).mono ?_
    rintro e wz ⟨rfl, hb⟩
    have BZ := Lib.hid hb
    clear hb
    go_wp2_with fail
    go_ret
    exact ⟨rfl, BZ.out⟩
  · have t0 : decide ((25 : Int) < (xs1.length : Int)) = false := decide_eq_false (by omega)
    obtain ⟨k, hk, hk20⟩ : ∃ k : Nat, (a : Int) % 20 = (k : Int) ∧ k < 20 := ⟨a % 20, by omega, by omega⟩
    have R0 : ∀ w, Calls Tryd.prog 5 #[.int .i64 0] w fun e w' => e = .returned (.int .u64 1) ∧ w = w' := fun w => refInt_any 0 w
    have R0H := Lib.hid R0
    obtain ⟨i0, hi, hz0, hz1, hz2⟩ := info_parts info_W
    have HI := Lib.hid hi
    have Z0 := Lib.hid hz0
    have Z1 := Lib.hid hz1
    have Z2 := Lib.hid hz2
    obtain ⟨i1, hi, hz0, hz1, hz2⟩ := info_parts info_H
    have HI' := Lib.hid hi
    have Z0' := Lib.hid hz0
    have Z1' := Lib.hid hz1
    have Z2' := Lib.hid hz2
    have K20 := Lib.hid hk20
    clear R0 hi hz0 hz1 hz2
    go_enter Tryd.func3, Tryd.ntmps3
    go_wp2_with fail
    refine (R0H.out _).mono ?_
    rintro e w1 ⟨rfl, rfl⟩
    go_wp2_with fail
    have I0 : L1 W ((W.alloc (.cells #[.int .i64 0, .int .i64 0, .int .i64 0, .int .u64 0] 27)).alloc (.cells #[.int .i64 0, .int .i64 0, .int .i64 0, .int .i64 0, .slice none 0 0, .slice (some ⟨W.heap.size, 0, none⟩) 1 1, .slice none 0 0, .int .i64 0, .int .u64 1, .int .i64 0] 34)) 0 0 none 0 none 0 :=
      ⟨rowAt.made_at _ _ (by rw [World.size_alloc]), (rowAt.made W 27 _).alloc _, World.ownsRow_nil _ _ _ 1, World.ownsRow_nil _ _ _ 3, (fun g hg => by cases hg), down_alloc (down_alloc (Below.refl _ _) _) _⟩
    have J0 := Lib.hid I0
    clear I0
    obtain ⟨W2, hW2⟩ : ∃ W2, (W.alloc (.cells #[.int .i64 0, .int .i64 0, .int .i64 0, .int .u64 0] 27)).alloc (.cells #[.int .i64 0, .int .i64 0, .int .i64 0, .int .i64 0, .slice none 0 0, .slice (some ⟨W.heap.size, 0, none⟩) 1 1, .slice none 0 0, .int .i64 0, .int .u64 1, .int .i64 0] 34) = W2 := ⟨_, rfl⟩
    rw [hW2] at J0 ⊢
    clear hW2
    go_loopw [7] (fun i wr => ∃ (j : Nat) (sa : Option Addr) (sc : Nat) (ha : Option Addr) (hc : Nat), j ≤ k ∧ i = .int .i64 j ∧ Hid (L1 W wr j j sa sc ha hc)) (fun i _ => k - (intOf i).toNat)
    case atStart => exact ⟨0, none, 0, none, 0, Nat.zero_le _, rfl, J0⟩
    case round =>
      obtain ⟨j, sa, sc, ha', hc, hjk, rfl, HR⟩ := hrel
      have hk20 := K20.out
      by_cases hlt : j < k
      · obtain ⟨d0, d1, d2, d3, d4, d5, d6, d7, d8, d9⟩ := cells10 HR.out.rm
        have HX := Lib.hid (show Below wr.heap.size wr (wr.alloc (.cells #[.int .u64 (wInt (j : Int))] 24)).drew from down_drew (down_alloc (Below.refl _ _) _))
        have HOWN := Lib.hid (owns_upon HR.out.os (Upon.of_below (S := fun _ => False) HX.out) fun _ _ t => t)
        have HROW : Hid (rowAt (wr.alloc (.cells #[.int .u64 (wInt (j : Int))] 24)).drew wr.heap.size 24 [.int .u64 (wInt (j : Int))]) := rowAt.made _ _ _
        have BSZ := Lib.hid (show W.heap.size + 2 ≤ (wr.alloc (.cells #[.int .u64 (wInt (j : Int))] 24)).drew.heap.size from by have := HR.out.rm.lt; have := HX.out.size; omega)
        have g4 : (wr.alloc (.cells #[.int .u64 (wInt (j : Int))] 24)).cell? ⟨W.heap.size + 1, 4, none⟩ = some (.slice sa j sc) := ((HR.out.rm.alloc _).cell 4).trans rfl
        go_wp2_with fail
        go_cut [32] from 21 to 40 (fun _ wx => ∃ a2 c2, L1 W wx (j + 1) j a2 c2 ha' hc)
        case first =>
          go_region_law (first
            | (refine step_append_w (by rfl) _ _ _ (by rfl) (W.heap.size + 2) 24 i0 (.int .u64 0) 1 8 under_W HI.out Z0.out Z1.out Z2.out (by rfl) (by decide) (.slice sa j sc) j (wdL (nums j)) (by rfl) HOWN.out _ 1 1 [.int .u64 (wInt (j : Int))] (by rfl) (by rfl) (src_rowF HROW.out 1) (one_w _) ?c1 ?c2 ?c3 ?_; (case c1 => simp only [maxLen]; omega); (case c2 => omega); (case c3 => exact BSZ.out); intro v' w2 hown2 hgrow2 hb2; obtain ⟨a2, c2, rfl⟩ := owns_slice hown2; obtain ⟨ra, rb⟩ := HR.out.stack HX.out hown2 hgrow2 hb2; have RB := Lib.hid rb; have rc : w2.cell? ⟨W.heap.size + 1, 4, none⟩ = some (.slice sa j sc) := (ra.cell 4).trans rfl; have rf := ra.free 4; have rl := ra.lt; clear hown2 hgrow2 hb2 ra rb)
            | (go_simp; go_at_call 5; refine (refInt_any (j : Int) _).mono ?_; rintro e w6 ⟨rfl, rfl⟩))
          all_goals
            go_wp2_with fail
            go_meet
            exact ⟨_, _, RB.out⟩
        case rest =>
          obtain ⟨a2, c2, hcx⟩ := hcut
          have HC := Lib.hid hcx
          clear hcx d0 d1 d2 d3 d4 d5 d6 d7 d8 d9 g4 HOWN HROW BSZ HX
          obtain ⟨d0, d1, d2, d3, d4, d5, d6, d7, d8, d9⟩ := cells10 HC.out.rm
          have HX := Lib.hid (show Below wc.heap.size wc (wc.alloc (.cells #[.int .i64 1, .int .i64 (j : Int), .int .i64 (j : Int)] 36)) from down_alloc (Below.refl _ _) _)
          have HOWN := Lib.hid (owns_upon HC.out.oh (Upon.of_below (S := fun _ => False) HX.out) fun _ _ t => t)
          have HROW : Hid (rowAt (wc.alloc (.cells #[.int .i64 1, .int .i64 (j : Int), .int .i64 (j : Int)] 36)) wc.heap.size 36 [.int .i64 1, .int .i64 (j : Int), .int .i64 (j : Int)]) := Lib.hid (rowAt.made _ _ _)
          have BSZ := Lib.hid (show W.heap.size + 2 ≤ (wc.alloc (.cells #[.int .i64 1, .int .i64 (j : Int), .int .i64 (j : Int)] 36)).heap.size from by have := HC.out.rm.lt; have := HX.out.size; omega)
          go_wp2_with (at_builtin; refine wpList_append_w (by rfl) _ _ _ (by rfl) (W.heap.size + 2) 36 i1 (.agg #[.int .i64 0, .int .i64 0, .int .i64 0]) 3 24 under_H HI'.out Z0'.out Z1'.out Z2'.out (by rfl) (by decide) (.slice ha' j hc) j (hdL (hs j)) (by rfl) HOWN.out (some ⟨wc.heap.size, 0, none⟩) 1 1 [.int .i64 1, .int .i64 (j : Int), .int .i64 (j : Int)] (by rfl) (by rfl) (src_rowF HROW.out 1) (one_h _ _ _) ?c1 ?c2 ?c3 ?_; (case c1 => simp only [maxLen]; omega); (case c2 => omega); (case c3 => exact BSZ.out); intro v' w2 hown2 hgrow2 hb2; obtain ⟨a3, c3, rfl⟩ := owns_slice hown2; obtain ⟨ra, rb⟩ := HC.out.hand HX.out hown2 hgrow2 hb2; have RB := Lib.hid rb; have rc : w2.cell? ⟨W.heap.size + 1, 6, none⟩ = some (.slice ha' j hc) := (ra.cell 6).trans rfl; have rf := ra.free 6; have rl := ra.lt; clear hown2 hgrow2 hb2 ra rb)
          go_roundw
          case rel => exact ⟨j + 1, a2, c2, a3, c3, by omega, by go_num, RB⟩
          case measure => simp [intOf]; omega
      · obtain rfl : j = k := by omega
        have e1 : (nums j).length = j := nums_length j
        go_wp2_with fail
        go_loopw [8] (fun i wr => ∃ (n l : Nat) (st : List Int) (pc : Int) (sa : Option Addr) (sc : Nat) (fa : Option Addr) (fc : Nat) (ha : Option Addr) (hc : Nat), n + l = j ∧ n ≤ xs1.length ∧ i = .int .i64 n ∧ Hid (L2 W wr l st pc sa sc fa fc ha hc)) (fun i _ => xs1.length - (intOf i).toNat)
        case atStart => exact ⟨0, j, nums j, 0, sa, sc, some ⟨W.heap.size, 0, none⟩, 1, ha', hc, by omega, Nat.zero_le _, rfl, Lib.hid (L2.start HR.out)⟩
        case round =>
          obtain ⟨n, l, st, pc, sa, sc, fa, fc, ha', hc, hnl, hn, rfl, HL⟩ := hrel
          have t1 : (j : Int) - (n : Int) = (l : Int) := by omega
          have HNL := Lib.hid hnl
          clear hnl
          by_cases hlt : n < xs1.length
          · obtain ⟨x, hx⟩ : ∃ x, xs1[n]? = some x := ⟨_, List.getElem?_eq_getElem hlt⟩
            obtain ⟨b, o, rfl, hbW, hcx⟩ : ∃ b o, av = some ⟨b, o, none⟩ ∧ b < W.heap.size ∧ W.cell? ⟨b, o + n, none⟩ = some (.int .i64 x) := by
              rcases HV.out with h | ⟨b, o, h1, h2⟩
              · omega
              · have h3 := h2 n _ (by rw [List.getElem?_map, hx]; rfl)
                exact ⟨b, o, h1, World.block_lt_of_cell? W _ h3, h3⟩
            have xc : wr.cell? ⟨b, o + n, none⟩ = some (.int .i64 x) := (HL.out.hb.cell (p := ⟨b, o + n, none⟩) hbW).trans hcx
            obtain ⟨d0, d1, d2, d3, d4, d5, d6, d7, d8, d9⟩ := cells10 HL.out.rm
            obtain ⟨q0, q1, q2, q3, q4, q5, q6, q7, q8, q9⟩ := frees10 HL.out.rm
            have ql := HL.out.rm.lt
            have HBX := Lib.hid hbW
            have XC0 := Lib.hid hcx
            have hl20 : l ≤ 20 := by have := HNL.out; omega
            clear hx hcx hbW
            have hl0 : (0 : Int) ≤ (l : Int) := by omega
            have tm : (if 0 < l then (l : Int) else 0) = (l : Int) := by split <;> omega
            have hj : wrap64 ((j : Int) - 1) = (j : Int) - 1 := by unfold wrap64; omega
            have hnj : (n : Int) ≤ j := by have := HNL.out; omega
            rcases l with _ | l
            · have t3 : (j : Int) - 1 - (n : Int) = -1 := by have := HNL.out; omega
              have TH := Lib.hid (throwL_0 HL.out x)
              go_wp2_with fail
              go_upto_region 15 with fail
              go_cut [60] from 41 to 127 (fun _ wx => ∃ sa sc fa fc ha hc, rowAt wx (W.heap.size + 1) 34 [.int .i64 0, .int .i64 0, .int .i64 0, .int .i64 0, .slice sa 0 sc, .slice fa 0 fc, .slice ha 0 hc, .int .i64 3, .int .u64 1, .int .i64 (wWrap x)] ∧ Below W.heap.size W wx)
              case first =>
                go_region_with (go_at_call 6
                                refine (TH.out).mono ?_
                                rintro e w5 ⟨sa5, sc5, fa5, fc5, ha5, hc5, rfl, hb5⟩
                                have B5 := Lib.hid (down_call (down_drew HL.out.hb) hb5)
                                have R5 := Lib.hid ((HL.out.rm.drew).below hb5 ql)
                                obtain ⟨z0, z1, z2, z3, z4, z5, z6, z7, z8, z9⟩ := cells10 R5.out
                                obtain ⟨y0, y1, y2, y3, y4, y5, y6, y7, y8, y9⟩ := frees10 R5.out
                                have yl := R5.out.lt
                                clear hb5)
                all_goals
                  go_wp2_with fail
                  go_meet
                  refine ⟨_, _, _, _, _, _, (((((((((R5.out.set 0 _).set 1 _).set 2 _).set 3 _).set 4 _).set 5 _).set 6 _).set 7 _).set 8 _).set 9 _, ?_⟩
                  iterate 10 refine down_set ?_ (by dsimp only; omega) _
                  exact B5.out
              case rest =>
                obtain ⟨sa5, sc5, fa5, fc5, ha5, hc5, hr, hb⟩ := hcut
                have TW := Lib.hid (TT.below (down_drew hb))
                have BW5 := Lib.hid hb
                have xc5 : wc.cell? ⟨b, o + n, none⟩ = some (.int .i64 x) := (hb.cell (p := ⟨b, o + n, none⟩) HBX.out).trans XC0.out
                clear d0 d1 d2 d3 d4 d5 d6 d7 d8 d9 q0 q1 q2 q3 q4 q5 q6 q7 q8 q9 ql xc TH
                obtain ⟨d0, d1, d2, d3, d4, d5, d6, d7, d8, d9⟩ := cells10 hr
                clear hr hb
                go_wp2_with fail
                go_region_with (first
                  | (go_at_call 7; refine (refWrap_any x _).mono ?_; rintro e w6 ⟨rfl, rfl⟩)
                  | (go_at_call 4; refine (wakesF_any _ TW.out).mono ?_; rintro e wz ⟨rfl, hbz⟩; have BZ := Lib.hid (down_call (down_drew BW5.out) hbz); clear hbz))
                all_goals
                  go_wp2_with fail
                  go_ret
                  exact ⟨rfl, BZ.out⟩
            · have t3 : (j : Int) - 1 - (n : Int) = (l : Int) := by have := HNL.out; omega
              have TH := Lib.hid (throwL_s HL.out hl20 x)
              go_wp2_with fail
              go_upto_region 15 with fail
              go_cut [60] from 41 to 127 (fun _ wx => ∃ sa sc fa fc ha hc, rowAt wx (W.heap.size + 1) 34 [.int .i64 0, .int .i64 0, .int .i64 0, .int .i64 0, .slice sa (l + 1) sc, .slice fa 1 fc, .slice ha l hc, .int .i64 0, .int .u64 1, .int .i64 0] ∧ maAt (fun b => b = W.heap.size + 1) wx (.slice sa (l + 1) sc) (.slice fa 1 fc) (.slice ha l hc) (nextM l x) ∧ Below W.heap.size W wx)
              case first =>
                go_region_with (go_at_call 6
                                refine (TH.out).mono ?_
                                rintro e w5 ⟨sa5, sc5, fa5, fc5, ha5, hc5, rfl, hm5, hb5⟩
                                have B5 := Lib.hid (down_call (down_drew HL.out.hb) hb5)
                                have R5 := Lib.hid ((HL.out.rm.drew).below hb5 ql)
                                have M5 := hm5.off (T := fun b => b = W.heap.size + 1) fun k hk e => by omega
                                have FIN5 := Lib.hid (show ∀ WF, Upon (fun b => b = W.heap.size + 1) w5 WF → rowAt WF (W.heap.size + 1) 34 [.int .i64 0, .int .i64 0, .int .i64 0, .int .i64 0, .slice sa5 (l + 1) sc5, .slice fa5 1 fc5, .slice ha5 l hc5, .int .i64 0, .int .u64 1, .int .i64 0] → ∃ sa sc fa fc ha hc, rowAt WF (W.heap.size + 1) 34 [.int .i64 0, .int .i64 0, .int .i64 0, .int .i64 0, .slice sa (l + 1) sc, .slice fa 1 fc, .slice ha l hc, .int .i64 0, .int .u64 1, .int .i64 0] ∧ maAt (fun b => b = W.heap.size + 1) WF (.slice sa (l + 1) sc) (.slice fa 1 fc) (.slice ha l hc) (nextM l x) ∧ Below W.heap.size W WF from
                                  fun WF hu hr => ⟨sa5, sc5, fa5, fc5, ha5, hc5, hr, M5.upon hu (fun _ _ e => e), B5.out.trans (hu.belowB B5.out.size fun k hk => by omega)⟩)
                                clear M5
                                obtain ⟨z0, z1, z2, z3, z4, z5, z6, z7, z8, z9⟩ := cells10 R5.out
                                obtain ⟨y0, y1, y2, y3, y4, y5, y6, y7, y8, y9⟩ := frees10 R5.out
                                have yl := R5.out.lt
                                clear hb5 hm5)
                all_goals
                  go_wp2_with fail
                  go_meet
                  refine FIN5.out _ ?_ ?_
                  · iterate 10 refine Upon.set1 ?_ (by rfl) _
                    exact Upon.refl _ _
                  · exact (((((((((R5.out.set 0 _).set 1 _).set 2 _).set 3 _).set 4 _).set 5 _).set 6 _).set 7 _).set 8 _).set 9 _
              case rest =>
                obtain ⟨sa5, sc5, fa5, fc5, ha5, hc5, hr, hm, hb⟩ := hcut
                have HR5 := Lib.hid hr
                have HM5 := Lib.hid hm
                have HB5 := Lib.hid hb
                have xc5 : wc.cell? ⟨b, o + n, none⟩ = some (.int .i64 x) := (hb.cell (p := ⟨b, o + n, none⟩) HBX.out).trans XC0.out
                clear d0 d1 d2 d3 d4 d5 d6 d7 d8 d9 q0 q1 q2 q3 q4 q5 q6 q7 q8 q9 ql xc TH
                obtain ⟨d0, d1, d2, d3, d4, d5, d6, d7, d8, d9⟩ := cells10 hr
                obtain ⟨sb, so, rfl, hsx⟩ := rd_at hm.1 (next_st l x).1
                have sx := hsx _ _ (next_st l x).2
                obtain ⟨fb, fo, rfl, hfx⟩ := rd_at hm.2.1 (next_fr l x).1
                have fx := hfx _ _ (next_fr l x).2
                clear hsx hfx
                clear hr hm hb
                go_wp2_with fail
                go_quiet ((go_at_call 5; refine Calls.quiet_of_same ((refInt_any x _).mono fun e w' h => ⟨h.1, h.2.symm⟩)))
                go_wp2_with fail
                go_roundw
                case rel => exact ⟨n + 1, l, nums l ++ [wInt x], (l : Int), some ⟨sb, so, none⟩, sc5, some ⟨fb, fo, none⟩, fc5, ha5, hc5, nl_step HNL.out, hlt, by go_num, Lib.hid (L2.next HR5.out HM5.out HB5.out nq)⟩
                case measure => simp [intOf]; omega
          · obtain rfl : n = xs1.length := by omega
            have TW := Lib.hid (TT.below HL.out.hb)
            have BW5 := Lib.hid HL.out.hb
            go_wp2_with fail
            refine (wakesF_any _ TW.out).mono ?_
            rintro e wz ⟨rfl, hbz⟩
            have BZ := Lib.hid (down_call BW5.out hbz)
            clear hbz
            go_wp2_with fail
            go_ret
            exact ⟨rfl, BZ.out⟩

theorem contract (H : Type) (enc : TypeId × Value → H) (W : World) (base : Nat) (args : Array Value) (ds gs : List (DataW H)) (before : List MemPlace)
    (hval0 : ∀ (j : Nat) t v, Tryd.f3.params[j]? = some t → args[j]? = some v → Value.okWide Tryd.prog W .any base t v)
    (hW : DataW.Whole enc Tryd.prog Tryd.f3.params.toList Rows.frameHandlersSpec.vars false W args.toList ds gs before)
    (T : OpTab W) :
    Calls Tryd.prog 3 args W fun e W' => ∃ v, e = .returned v ∧ Rows.frameHandlersSpec.post enc Tryd.prog Tryd.f3 false true false false W args v W' := by
  have hW' := hW
  have hval := hval0
  obtain ⟨p, q, hA0, hV, rfl, hfz, hnd⟩ := hW
  have hA : DataW.TrodAll enc Tryd.prog W 0 (fun _ => true) true Tryd.f3.params.toList args.toList ds p := hA0
  rw [Tryd.params3] at hA hval
  obtain ⟨rfl, rfl⟩ := trodVars_none hV
  obtain ⟨v0, vs0, d0, ds0, p0, q0, hargs, rfl, rfl, h0, r0⟩ := trodAll_cons hA
  obtain ⟨v1, vs1, d1, ds1, p1, q1, rfl, rfl, rfl, h1, r1⟩ := trodAll_cons r0
  obtain ⟨rfl, rfl, rfl⟩ := trodAll_nil r1
  obtain rfl : args = #[v0, v1] := by cases args; simp_all
  obtain ⟨a0, rfl, rfl, rfl, w0⟩ := open_int Tryd.underlying5 (hval 0 5 v0 rfl rfl) h0
  obtain ⟨xs1, hr1, hx1, hm1⟩ := open_slice_int Tryd.underlying22 Tryd.underlying2 (by kernel_rfl) (hval 1 22 v1 rfl rfl) h1
  refine (walk a0 v1 xs1 W w0 hr1 hx1 hm1 T).mono fun e W' ⟨he, hb⟩ => ?_
  subst he
  exact ⟨_, rfl, law_post laidOut (by kernel_rfl) rfl (by kernel_rfl) Tryd.underlying4 hW' rfl rfl rfl hb⟩

theorem door_met (os : Os) (args : Array Value) : laidMetH Tryd.prog Rows.frameHandlersRow.laid ((World.doorLaid Tryd.prog 200 os).forCall (fun _ _ => 0) ⟨#[], args, []⟩).memory :=
  laidMetH_of_parts3 (fuel := 8) (laidMet_of_run' 8 (by kernel_rfl) (by kernel_rfl)) (by kernel_rfl) (by kernel_rfl)

set_option maxRecDepth 100000 in
theorem lifted (os : Os) (started : os.Started) (H : Type) (enc : TypeId × Value → H) :
    ReturnsInHanded {} Tryd.checked os 3 .any (fun w args => (Rows.frameHandlersSpec.pre enc Tryd.prog Tryd.f3 [] false w args ∧ laidMetH Tryd.prog Rows.frameHandlersRow.laid w) ∧ sizedMet enc Tryd.prog Tryd.f3 (OpenSpec.ofChange Rows.frameHandlersSpec) false w args)
      (Rows.frameHandlersSpec.post enc Tryd.prog Tryd.f3 false true false false) := by
  refine returnsInHanded_of_change_and (C := Tryd.checked) (X := fun w _ => laidMetH Tryd.prog Rows.frameHandlersRow.laid w) (fun _ _ _ hh h => h.of_heap hh) own started (by kernel_rfl) Tryd.func3
    (ChangeSpec.witness_shaped (enc := enc) (C := Tryd.checked) (os := os) (X := fun w _ => laidMetH Tryd.prog Rows.frameHandlersRow.laid w) false (World.doorLaid Tryd.prog 200 os) #[.int .u8 0, .slice none 0 0] 8 rfl (World.shaped_of_RefB (by kernel_rfl) (by kernel_rfl)) (by kernel_rfl) (by kernel_rfl) (by kernel_rfl) (door_met os _)) ?_
  intro W base args ds gs before hval hW _ hz hL _
  exact contract H enc W base args ds gs before hval hW (optab_of (laid_lies (by kernel_rfl) hL _ _ (List.Mem.head _)) (laid_lies (by kernel_rfl) hL _ _ (List.Mem.tail _ (List.Mem.head _))) (laid_lies (by kernel_rfl) hL _ _ (List.Mem.tail _ (List.Mem.tail _ (List.Mem.head _)))))

theorem over : Rows.frameHandlersRow.holds Tryd.pinned (OpenSpec.ofChange Rows.frameHandlersSpec) :=
  OpenClaim.holds_of_wide 3 Tryd.f3 rfl rfl rfl rfl rfl rfl rfl ⟨rfl, rfl, rfl, rfl, rfl⟩ rfl rfl rfl rfl rfl (by kernel_rfl) Tryd.func3 (by kernel_rfl)
    (of_decide_eq_true (by kernel_rfl)) (by unfold Func.isWrapper; first | (rw [if_pos (by decide +kernel)]; kernel_rfl) | (rw [if_neg (by decide +kernel)]; exact ⟨rfl, rfl⟩))
    (fun os started H enc _ => lifted os started H enc)

theorem proved : Rows.FrameHandlersCardSaid :=
  Claim7.holds_tied_plain_at .later [] [.data, .data, .data] true _ false
    over (fun _ h => by cases h) (by kernel_rfl) (fun _ h => by cases h) frameHandlers_row_tie rfl ⟨rfl, rfl⟩ (by kernel_rfl) rfl
    (fun f fn hf hfn => by
      obtain rfl : f = 3 := Option.some.inj ((show Tryd.prog.funcNamed "stockpot/stockpotlaw11.FrameHandlers" = some 3 by kernel_rfl).symm.trans hf) |>.symm
      obtain rfl : fn = Tryd.f3 := (Option.some.inj (Tryd.func3.symm.trans hfn)).symm
      exact ⟨by kernel_rfl, fun j t ht => by
        have hall : (Tryd.f3.params.toList.all fun u => !Tryd.prog.wantsStandIn u) = true := by kernel_rfl
        exact (show Tryd.prog.wantsStandIn t = false by simpa using List.all_eq_true.1 hall t (by simpa using Array.mem_of_getElem? ht))⟩)
    (by kernel_rfl)
#print axioms proved
end Go.Proofs.YtjkneniakeffnaaDoor.frameHandlers
