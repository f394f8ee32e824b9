/-
  The walk of the law VerifyMore.
  Conditions: as stated.
-/
import Derived.Test.YtlfbfnkmbceejaaDoorVeMp
namespace Go.Proofs.YtlfbfnkmbceejaaDoor
open Go.ChangeShapes Go.WideShapes Go.ChangeAt Go.RowKit
set_option linter.unusedVariables false
set_option linter.unusedSimpArgs false
set_option maxRecDepth 100000

section
variable {B b p2 q : Nat} {n0 w w' : World} {r1 r2 : List Value} {u1 u2 u3 : Value} {fs : List (PFn × Value)} {Q : List ByteArray} {ms : List (PFm × Value)}
theorem OwS.pr (h : OwS B n0 b p2 q r1 r2 u1 u2 u3 fs Q ms w) : prAt (fun _ => False) w u1 u2 u3 (fs.map (·.1), Q, ms.map (·.1)) :=
  ⟨many_of fnC (fun _ => rfl) h.o1 (fun g _ t => t) fun y hy b o hc => ⟨hc 0 _ rfl, hc 1 _ rfl, y.2, hc 2 _ rfl, (h.i1 y hy).off fun _ _ t => t.elim⟩,
   rdAt.of_owns h.o2 (fun g _ t => t),
   many_of fmC (fun _ => rfl) h.o3 (fun g _ t => t) fun y hy b o hc => ⟨hc 0 _ rfl, hc 1 _ rfl, hc 2 _ rfl, y.2, hc 3 _ rfl, (h.i3 y hy).off fun _ _ t => t.elim⟩⟩
theorem OwS.box (h : OwS B n0 b p2 q r1 r2 u1 u2 u3 fs Q ms w) (hW : w.alloc (.cells #[u1, u2, u3] 26) = w') : OwS B n0 b p2 w.heap.size r1 r2 u1 u2 u3 fs Q ms w' := by
  subst hW
  have h' := h.below (down_alloc (Below.refl w.heap.size w) (.cells #[u1, u2, u3] 26))
  have lb := h.rp.lt; have l2 := h.r2.lt; have lw := h.lt
  have hz : ∀ (v : Value) (n : Nat) (cs : List Value), rdAt (OwZ B b p2 q u1 u2 u3) w v n cs → rdAt (OwZ B b p2 w.heap.size u1 u2 u3) (w.alloc (.cells #[u1, u2, u3] 26)) v n cs := fun v n cs hr =>
    (hr.off (T := OwZ B b p2 w.heap.size u1 u2 u3) fun k hk e => by
      rcases e with e | e | e | e | e | e | e
      · exact .inl e
      · exact .inr (.inl e)
      · exact .inr (.inr (.inl e))
      · omega
      · exact .inr (.inr (.inr (.inr (.inl e))))
      · exact .inr (.inr (.inr (.inr (.inr (.inl e)))))
      · exact .inr (.inr (.inr (.inr (.inr (.inr e)))))).below (down_alloc (Below.refl _ _) _)
  exact { h' with
    rq := rowAt.made _ _ _
    i1 := fun y hy => hz _ _ _ (h.i1 y hy)
    i3 := fun y hy => hz _ _ _ (h.i3 y hy)
    d := fun g e => by
      have h1 := h.d g e
      have : g < w.heap.size := by
        rcases e with e | e | e
        · exact own_lt h.o1 e
        · exact own_lt h.o2 e
        · exact own_lt h.o3 e
      exact ⟨h1.1, h1.2.1, by omega⟩
    nb := ⟨h.nb.1, by omega, by omega⟩
    bq := lw }
theorem OwS.st {W w2 : World} {v2 : Value} {s : ByteArray} (h : OwS B n0 b p2 q r1 r2 u1 u2 u3 fs Q ms W)
    (ho : w2.ownsRow B 9 1 v2 (Q.length + 1) (strL Q ++ [.string s])) (hg : W.grownBy w2 u2.ownBlock) (hb2 : v2.ownBlock = u2.ownBlock ∨ v2.ownBlock = some W.heap.size) :
    w2.cell? ⟨q, 1, none⟩ = some u2 ∧ w2.frozen? ⟨q, 1, none⟩ = false ∧ OwS B n0 b p2 q r1 r2 u1 v2 u3 fs (Q ++ [s]) ms (w2.setCell ⟨q, 1, none⟩ v2) := by
  have hu : Upon (fun g => u2.ownBlock = some g) W w2 := ⟨hg.os, hg.tape, hg.output, hg.size, fun k hk h => hg.block k hk fun e => h e.symm⟩
  have hu2 : Upon (fun g => g = q) w2 (w2.setCell ⟨q, 1, none⟩ v2) := Upon.setCell _ _ rfl
  have lb := h.rp.lt; have l2 := h.r2.lt; have lq := h.rq.lt
  have rq2 := h.rq.upon hu fun e => (h.d q (.inr (.inl e))).2.2 rfl
  have hv : ∀ g, v2.ownBlock = some g → (g < W.heap.size → u2.ownBlock = some g) := fun g e hlt => by
    rcases hb2 with hb | hb
    · exact hb ▸ e
    · rw [hb] at e; cases e; omega
  have hZ : ∀ g, g < W.heap.size → OwZ B b p2 q u1 v2 u3 g → OwZ B b p2 q u1 u2 u3 g := fun g hlt e => by
    rcases e with e | e | e | e | e | e | e
    · exact .inl e
    · exact .inr (.inl e)
    · exact .inr (.inr (.inl e))
    · exact .inr (.inr (.inr (.inl e)))
    · exact .inr (.inr (.inr (.inr (.inl e))))
    · exact .inr (.inr (.inr (.inr (.inr (.inl (hv g e hlt))))))
    · exact .inr (.inr (.inr (.inr (.inr (.inr e)))))
  have hG : ∀ g, g < W.heap.size → u2.ownBlock = some g → OwZ B b p2 q u1 u2 u3 g := fun g _ e => .inr (.inr (.inr (.inr (.inr (.inl e)))))
  have hq : OwZ B b p2 q u1 u2 u3 q := .inr (.inr (.inr (.inl rfl)))
  have od : ∀ g, v2.ownBlock = some g → g ≠ b ∧ g ≠ p2 ∧ g ≠ q := fun g e => by
    by_cases hlt : g < W.heap.size
    · exact h.d g (.inr (.inl (hv g e hlt)))
    · omega
  refine ⟨(rq2.cell 1).trans rfl, rq2.free 1, { h with
    rp := (h.rp.upon hu fun e => (h.d b (.inr (.inl e))).1 rfl).upon hu2 h.nb.2.1
    r2 := (h.r2.upon hu fun e => (h.d p2 (.inr (.inl e))).2.1 rfl).upon hu2 h.nb.2.2
    rq := rq2.set 1 v2
    o1 := owns_upon (owns_upon h.o1 hu fun g hg e => h.d12 g hg e) hu2 fun g hg e => (h.d g (.inl hg)).2.2 e
    o2 := ?_
    o3 := owns_upon (owns_upon h.o3 hu fun g hg e => h.d23 g e hg) hu2 fun g hg e => (h.d g (.inr (.inr hg))).2.2 e
    i1 := fun y hy => zmove (h.i1 y hy) hZ hu hG hq lq 1
    i3 := fun y hy => zmove (h.i3 y hy) hZ hu hG hq lq 1
    d := fun g e => by
      rcases e with e | e | e
      · exact h.d g (.inl e)
      · exact od g e
      · exact h.d g (.inr (.inr e))
    d12 := fun g e e2 => h.d12 g e (hv g e2 (own_lt h.o1 e))
    d23 := fun g e e2 => h.d23 g (hv g e (own_lt h.o3 e2)) e2
    be := (h.be.trans (hu.belowB h.lt fun g e => (own_ge h.o2 g e).1)).trans (hu2.belowB (Nat.le_trans h.lt hu.size) fun g e => by rw [e]; exact h.bq) }⟩
  rw [List.length_append, show strL (Q ++ [s]) = strL Q ++ [.string s] by simp]
  exact owns_upon ho hu2 fun g hg e => (od g hg).2.2 e
end
theorem ow_lit {Z : Nat → Prop} {w W : World} {X : Obj} (l : List PIns) (hZ : ∀ g, Z g → g < w.heap.size) (hW : (w.alloc (.cells ⟨insL l⟩ 49)).alloc X = W) : rdAt Z W (.slice (some ⟨w.heap.size, 0, none⟩) l.length l.length) l.length (insL l) := by
  subst hW
  have r := (rowAt.made w 49 (insL l)).alloc X
  exact ⟨_, _, rfl, .inr ⟨_, 0, rfl, fun e => by have := hZ _ e; omega, r.lt, fun j u hj => by rw [r.cell, Nat.zero_add]; exact hj⟩⟩
theorem prF_more {P : PPr} (h : prF P) (h1 : P.1.length ≤ 3000) (h2 : P.2.1.length ≤ 3000) (h3 : P.2.2.length ≤ 3000) : prF (moreP P) := by
  refine ⟨fun f hf => ?_, fun m hm => ?_, fun s hs => ?_, ?_, ?_, ?_⟩
  · rcases List.mem_append.1 hf with hf | hf
    · exact h.fn f hf
    · obtain rfl := List.mem_singleton.1 hf
      refine ⟨rfl, rfl, fun p hp => ?_, by decide⟩
      simp only [moreFn, List.mem_cons, List.not_mem_nil, or_false] at hp
      rcases hp with rfl | rfl <;> exact ⟨rfl, rfl, rfl⟩
  · rcases List.mem_append.1 hm with hm | hm
    · exact h.fm m hm
    · obtain rfl := List.mem_singleton.1 hm
      exact ⟨rfl, rfl, rfl, fun c hc => (by cases hc), by decide⟩
  · rcases List.mem_append.1 hs with hs | hs
    · exact h.st s hs
    · obtain rfl := List.mem_singleton.1 hs
      decide
  · simp only [moreP, List.length_append, List.length_singleton, maxLen]; omega
  · simp only [moreP, List.length_append, List.length_singleton, maxLen]; omega
  · simp only [moreP, List.length_append, List.length_singleton, maxLen]; omega
theorem prF_bad {P : PPr} (h : prF P) (h1 : P.1.length ≤ 3000) : prF (badP P) := by
  refine ⟨fun f hf => ?_, h.fm, h.st, ?_, h.n2, h.n3⟩
  · rcases List.mem_append.1 hf with hf | hf
    · exact h.fn f hf
    · obtain rfl := List.mem_singleton.1 hf
      refine ⟨rfl, rfl, fun p hp => ?_, by decide⟩
      simp only [badFn, List.mem_cons, List.not_mem_nil, or_false] at hp
      rcases hp with rfl
      exact ⟨rfl, rfl, rfl⟩
  · simp only [badP, List.length_append, List.length_singleton, maxLen]; omega

set_option maxHeartbeats 16000000 in
theorem more_walk (v1 v2 v3 : Value) (P : PPr) (fb : Int) (w : World) (hp : prAt (fun _ => False) w v1 v2 v3 P) (hf : prF P) (hr : PRe P) (wb : (Lit.int .u8 fb).wf = true) (T : VeTab w) :
    Calls Tryd.prog 5 #[.agg #[v1, v2, v3], .int .u8 fb] w fun e w' => e = .returned (.bool true) ∧ Below w.heap.size w w' := by
  have hb8 : 0 ≤ fb ∧ fb < 256 := by simp [Lit.wf, IntKind.min, IntKind.max, IntKind.signed, IntKind.bits] at wb; omega
  clear wb
  obtain ⟨fn, rfl⟩ : ∃ n : Nat, fb = n := ⟨fb.toNat, by omega⟩
  have HFB := Lib.hid (show fn < 256 by omega)
  have HF := Lib.hid hf
  have HR := Lib.hid hr
  have HP := Lib.hid hp
  have HT := Lib.hid T
  obtain ⟨⟨a1, c1, rfl, -⟩, ⟨a2, c2, rfl, -⟩, ⟨a3, c3, rfl, -⟩⟩ := hp
  obtain ⟨j0, ji, jz0, jz1, jz2⟩ := info_parts ow_str
  obtain ⟨l0, li, lz0, lz1, lz2⟩ := info_parts info_fn
  obtain ⟨m0, mi, mz0, mz1, mz2⟩ := info_parts info_fm
  obtain ⟨W0, hW0⟩ : ∃ W0, w.alloc (.cells #[.slice a1 P.1.length c1, .slice a2 P.2.1.length c2, .slice a3 P.2.2.length c3] 26) = W0 := ⟨_, rfl⟩
  have B0 := Lib.hid (show Below w.heap.size w W0 by rw [← hW0]; exact down_alloc (Below.refl _ _) _)
  have R0 := Lib.hid (show rowAt W0 w.heap.size 26 [.slice a1 P.1.length c1, .slice a2 P.2.1.length c2, .slice a3 P.2.2.length c3] by rw [← hW0]; exact rowAt.made _ _ _)
  have x0 : W0.cell? ⟨w.heap.size, 0, none⟩ = some (.slice a1 P.1.length c1) := (R0.out.cell 0).trans rfl
  have x1 : W0.cell? ⟨w.heap.size, 1, none⟩ = some (.slice a2 P.2.1.length c2) := (R0.out.cell 1).trans rfl
  have x2 : W0.cell? ⟨w.heap.size, 2, none⟩ = some (.slice a3 P.2.2.length c3) := (R0.out.cell 2).trans rfl
  clear hf hr T
  go_enter Tryd.func5, Tryd.ntmps5
  go_wp2_with fail
  clear hW0 x0 x1 x2
  refine (large_any (HP.out.below B0.out) HR.out HF.out.st).mono ?_
  rintro e w1 ⟨lg, rfl, hlg, hb⟩
  have B1 := Lib.hid (down_call B0.out hb)
  obtain ⟨r1, x0, x1, x2⟩ := prog_row R0.out hb
  have R1 := Lib.hid r1
  clear hb r1
  cases lg
  · have SM := Lib.hid (hlg rfl)
    clear hlg
    have n1 := SM.out.n1
    have n2 := SM.out.n2
    have n3 := SM.out.n3
    by_cases h60 : 60 ≤ P.1.length
    · have hI : (60 : Int) ≤ P.1.length := by omega
      go_wp2_with fail
      refine (wakes_any _ (HT.out.below B1.out)).mono ?_
      rintro e w2 ⟨rfl, hb⟩
      have BX := Lib.hid (down_call B1.out hb)
      go_wp2_with fail
      go_ret
      exact ⟨rfl, BX.out⟩
    · have hI : ¬ (60 : Int) ≤ P.1.length := by omega
      by_cases h40 : 40 ≤ P.2.1.length
      · have hI2 : (40 : Int) ≤ P.2.1.length := by omega
        go_wp2_with fail
        refine (wakes_any _ (HT.out.below B1.out)).mono ?_
        rintro e w2 ⟨rfl, hb⟩
        have BX := Lib.hid (down_call B1.out hb)
        go_wp2_with fail
        go_ret
        exact ⟨rfl, BX.out⟩
      · have hI2 : ¬ (40 : Int) ≤ P.2.1.length := by omega
        by_cases h43 : 40 ≤ P.2.2.length
        · have hI3 : (40 : Int) ≤ P.2.2.length := by omega
          go_wp2_with fail
          refine (wakes_any _ (HT.out.below B1.out)).mono ?_
          rintro e w2 ⟨rfl, hb⟩
          have BX := Lib.hid (down_call B1.out hb)
          go_wp2_with fail
          go_ret
          exact ⟨rfl, BX.out⟩
        · have hI3 : ¬ (40 : Int) ≤ P.2.2.length := by omega
          have L1 := Lib.hid (show P.1.length < 60 by omega)
          have L2 := Lib.hid (show P.2.1.length < 40 by omega)
          have L3 := Lib.hid (show P.2.2.length < 40 by omega)
          clear h60 h40 h43
          go_wp2_with fail
          refine (check_any (HP.out.below B1.out) HF.out (HT.out.below B1.out) fn).mono ?_
          rintro e w2 ⟨rfl, hb⟩
          have B2 := Lib.hid (down_call B1.out hb)
          clear x0 x1 x2
          obtain ⟨r2, x0, x1, x2⟩ := prog_row R1.out hb
          have R2 := Lib.hid r2
          clear hb r2
          obtain ⟨ck, hck⟩ : ∃ z, checkP P fn = z := ⟨_, rfl⟩
          have HCK := Lib.hid hck
          rw [hck]
          clear hck hI hI2 hI3
          go_wp2_with fail
          refine (ownProgram_any (HP.out.below B2.out) HF.out SM.out).mono ?_
          rintro e w3 ⟨u1, u2, u3, fs, ms, ob, op2, oq, or1, or2, rfl, hfs, hms, hs⟩
          have HFS := Lib.hid hfs
          have HMS := Lib.hid hms
          obtain ⟨g1, e1, rfl⟩ := owns_slice hs.o1
          obtain ⟨g2, e2, rfl⟩ := owns_slice hs.o2
          obtain ⟨g3, e3, rfl⟩ := owns_slice hs.o3
          have lf : fs.length ≤ 3000 := by have := congrArg List.length hfs; simp at this; omega
          have lm : ms.length ≤ 3000 := by have := congrArg List.length hms; simp at this; omega
          obtain ⟨W4, hW4⟩ : ∃ W, w3.alloc (.cells #[.slice g1 fs.length e1, .slice g2 P.2.1.length e2, .slice g3 ms.length e3] 26) = W := ⟨_, rfl⟩
          have s4 := hs.box hW4
          obtain ⟨W5, hW5⟩ : ∃ W, W4.alloc (.cells #[.int .i64 2, .int .i64 0, .int .i64 0, .int .i64 9, .int .i64 0, .int .i64 0] 49) = W := ⟨_, rfl⟩
          obtain ⟨W6, hW6⟩ : ∃ W, W5.alloc (.cells #[.int .i64 1, .int .i64 0, .slice (some ⟨W4.heap.size, 0, none⟩) 2 2] 46) = W := ⟨_, rfl⟩
          have b45 : Below W4.heap.size W4 W5 := by rw [← hW5]; exact down_alloc (Below.refl _ _) _
          have b56 : Below W5.heap.size W5 W6 := by rw [← hW6]; exact down_alloc (Below.refl _ _) _
          have HN6 := Lib.hid (show rdAt (OwZ w2.heap.size ob op2 w3.heap.size (.slice g1 fs.length e1) (.slice g2 P.2.1.length e2) (.slice g3 ms.length e3)) W6 (.slice (some ⟨W4.heap.size, 0, none⟩) 2 2) moreFn.2.2.length (insL moreFn.2.2) from
            ow_lit moreFn.2.2 (fun g hg => s4.zlt hg) (by rw [← hW6, ← hW5]; rfl))
          have R6 := Lib.hid (show rowAt W6 W5.heap.size 46 [.int .i64 1, .int .i64 0, .slice (some ⟨W4.heap.size, 0, none⟩) 2 2] by rw [← hW6]; exact rowAt.made _ _ _)
          have HS6 := Lib.hid (s4.below (down_call b45 b56))
          have t4 : W4.cell? ⟨w3.heap.size, 0, none⟩ = some (.slice g1 fs.length e1) := (s4.rq.cell 0).trans rfl
          clear x0 x1 x2 hfs hms hs s4 b45 b56
          go_wp2_with (first
            | (at_builtin; refine wpList_append_w (by rfl) _ _ _ (by rfl) w2.heap.size 46 l0 (.agg #[.int .i64 0, .int .i64 0, .slice none 0 0]) 3 40 under_fns li lz0 lz1 lz2 (by rfl) (by decide) (.slice g1 fs.length e1) fs.length (fs.flatMap fnC) (by rfl) HS6.out.o1 (some ⟨W5.heap.size, 0, none⟩) 1 1 [.int .i64 1, .int .i64 0, .slice (some ⟨W4.heap.size, 0, none⟩) 2 2] (by rfl) (by rfl) (row_srcO R6.out 1) (by simp [Value.oneCell']) (by unfold maxLen; omega) (by omega) HS6.out.lt ?_; intro v7 w7 hown2 hgrow2 hb2; obtain ⟨g7, e7, rfl⟩ := owns_slice hown2; obtain ⟨x4, f4, k5⟩ := HS6.out.fn (f := moreFn) HN6.out hown2 hgrow2 hb2; obtain ⟨W8, hW8⟩ : ∃ W, w7.setCell ⟨w3.heap.size, 0, none⟩ (.slice g7 (fs.length + 1) e7) = W := ⟨_, rfl⟩; rw [hW8] at k5; obtain ⟨W9, hW9⟩ : ∃ W, W8.alloc (.cells #[.string ⟨#[109, 111, 114, 101]⟩] 9) = W := ⟨_, rfl⟩; have R9 := Lib.hid (show rowAt W9 W8.heap.size 9 [.string ⟨#[109, 111, 114, 101]⟩] from by rw [← hW9]; exact rowAt.made _ _ _); have b89 : Below W8.heap.size W8 W9 := (by rw [← hW9]; exact down_alloc (Below.refl _ _) _); have HS9 := Lib.hid (k5.below b89); have t8 : W8.cell? ⟨w3.heap.size, 1, none⟩ = some (.slice g2 P.2.1.length e2) := (k5.rq.cell 1).trans rfl; clear hown2 hgrow2 hb2 k5 b89)
            | (at_builtin; refine wpList_append_w (by rfl) _ _ _ (by rfl) w2.heap.size 9 j0 (.string ⟨#[]⟩) 1 16 under_strs ji jz0 jz1 jz2 (by rfl) (by decide) (.slice g2 P.2.1.length e2) P.2.1.length (strL P.2.1) (by rfl) HS9.out.o2 (some ⟨W8.heap.size, 0, none⟩) 1 1 [.string ⟨#[109, 111, 114, 101]⟩] (by rfl) (by rfl) (row_srcO R9.out 1) (by simp [Value.oneCell']) (by unfold maxLen; omega) (by omega) HS9.out.lt ?_; intro v10 w10 hown2 hgrow2 hb2; obtain ⟨g10, e10, rfl⟩ := owns_slice hown2; obtain ⟨x10, f10, k5⟩ := HS9.out.st (s := moreSt) hown2 hgrow2 hb2; obtain ⟨W11, hW11⟩ : ∃ W, w10.setCell ⟨w3.heap.size, 1, none⟩ (.slice g10 (P.2.1.length + 1) e10) = W := ⟨_, rfl⟩; rw [hW11] at k5; obtain ⟨W12, hW12⟩ : ∃ W, W11.alloc (.cells #[.int .i64 1, .int .i64 0, .int .i64 0, .slice none 0 0] 56) = W := ⟨_, rfl⟩; have R12 := Lib.hid (show rowAt W12 W11.heap.size 56 [.int .i64 1, .int .i64 0, .int .i64 0, .slice none 0 0] from by rw [← hW12]; exact rowAt.made _ _ _); have b12 : Below W11.heap.size W11 W12 := (by rw [← hW12]; exact down_alloc (Below.refl _ _) _); have HS12 := Lib.hid (k5.below b12); have t11 : W11.cell? ⟨w3.heap.size, 2, none⟩ = some (.slice g3 ms.length e3) := (k5.rq.cell 2).trans rfl; clear hown2 hgrow2 hb2 k5 b12)
            | (at_builtin; refine wpList_append_w (by rfl) _ _ _ (by rfl) w2.heap.size 56 m0 (.agg #[.int .i64 0, .int .i64 0, .int .i64 0, .slice none 0 0]) 4 48 under_fms mi mz0 mz1 mz2 (by rfl) (by decide) (.slice g3 ms.length e3) ms.length (ms.flatMap fmC) (by rfl) HS12.out.o3 (some ⟨W11.heap.size, 0, none⟩) 1 1 [.int .i64 1, .int .i64 0, .int .i64 0, .slice none 0 0] (by rfl) (by rfl) (row_srcO R12.out 1) (by simp [Value.oneCell']) (by unfold maxLen; omega) (by omega) HS12.out.lt ?_; intro v13 w13 hown2 hgrow2 hb2; obtain ⟨g13, e13, rfl⟩ := owns_slice hown2; obtain ⟨x13, f13, k5⟩ := HS12.out.fm (m := moreFm) (sv := .slice none 0 0) ⟨none, 0, rfl, .inl rfl⟩ hown2 hgrow2 hb2; obtain ⟨W14, hW14⟩ : ∃ W, w13.setCell ⟨w3.heap.size, 2, none⟩ (.slice g13 (ms.length + 1) e13) = W := ⟨_, rfl⟩; rw [hW14] at k5; have HS14 := Lib.hid k5; have y0 : W14.cell? ⟨w.heap.size, 0, none⟩ = some (.slice a1 P.1.length c1) := ((R2.out.below k5.be R2.out.lt).cell 0).trans rfl; have y1 : W14.cell? ⟨w.heap.size, 1, none⟩ = some (.slice a2 P.2.1.length c2) := ((R2.out.below k5.be R2.out.lt).cell 1).trans rfl; have y2 : W14.cell? ⟨w.heap.size, 2, none⟩ = some (.slice a3 P.2.2.length c3) := ((R2.out.below k5.be R2.out.lt).cell 2).trans rfl; clear hown2 hgrow2 hb2 k5))
          have B14 := Lib.hid (down_call B2.out HS14.out.be)
          refine (ownProgram_any (HP.out.below B14.out) HF.out SM.out).mono ?_
          clear hW4 hW5 hW6 hW8 hW9 hW11 hW12 hW14 t4 t8 t11 x4 f4 x10 f10 x13 f13
          rintro e w15 ⟨z1, z2, z3, gs, ns, pb, pp2, pq, pr1, pr2, rfl, hgs, hns, hs⟩
          have HGS := Lib.hid hgs
          have HNS := Lib.hid hns
          obtain ⟨h1, i1, rfl⟩ := owns_slice hs.o1
          obtain ⟨h2, i2, rfl⟩ := owns_slice hs.o2
          obtain ⟨h3, i3, rfl⟩ := owns_slice hs.o3
          have lg2 : gs.length ≤ 3000 := by have := congrArg List.length hgs; simp at this; omega
          have ln2 : ns.length ≤ 3000 := by have := congrArg List.length hns; simp at this; omega
          obtain ⟨W16, hW16⟩ : ∃ W, w15.alloc (.cells #[.slice h1 gs.length i1, .slice h2 P.2.1.length i2, .slice h3 ns.length i3] 26) = W := ⟨_, rfl⟩
          have s16 := hs.box hW16
          obtain ⟨W17, hW17⟩ : ∃ W, W16.alloc (.cells #[.int .i64 2, .int .i64 0, .int .i64 0] 49) = W := ⟨_, rfl⟩
          obtain ⟨W18, hW18⟩ : ∃ W, W17.alloc (.cells #[.int .i64 1, .int .i64 0, .slice (some ⟨W16.heap.size, 0, none⟩) 1 1] 46) = W := ⟨_, rfl⟩
          have b67 : Below W16.heap.size W16 W17 := by rw [← hW17]; exact down_alloc (Below.refl _ _) _
          have b78 : Below W17.heap.size W17 W18 := by rw [← hW18]; exact down_alloc (Below.refl _ _) _
          have HN18 := Lib.hid (show rdAt (OwZ W14.heap.size pb pp2 w15.heap.size (.slice h1 gs.length i1) (.slice h2 P.2.1.length i2) (.slice h3 ns.length i3)) W18 (.slice (some ⟨W16.heap.size, 0, none⟩) 1 1) badFn.2.2.length (insL badFn.2.2) from
            ow_lit badFn.2.2 (fun g hg => s16.zlt hg) (by rw [← hW18, ← hW17]; rfl))
          have R18 := Lib.hid (show rowAt W18 W17.heap.size 46 [.int .i64 1, .int .i64 0, .slice (some ⟨W16.heap.size, 0, none⟩) 1 1] by rw [← hW18]; exact rowAt.made _ _ _)
          have HS18 := Lib.hid (s16.below (down_call b67 b78))
          have t16 : W16.cell? ⟨w15.heap.size, 0, none⟩ = some (.slice h1 gs.length i1) := (s16.rq.cell 0).trans rfl
          clear y0 y1 y2 hgs hns hs s16 b67 b78
          go_wp2_with (at_builtin; refine wpList_append_w (by rfl) _ _ _ (by rfl) W14.heap.size 46 l0 (.agg #[.int .i64 0, .int .i64 0, .slice none 0 0]) 3 40 under_fns li lz0 lz1 lz2 (by rfl) (by decide) (.slice h1 gs.length i1) gs.length (gs.flatMap fnC) (by rfl) HS18.out.o1 (some ⟨W17.heap.size, 0, none⟩) 1 1 [.int .i64 1, .int .i64 0, .slice (some ⟨W16.heap.size, 0, none⟩) 1 1] (by rfl) (by rfl) (row_srcO R18.out 1) (by simp [Value.oneCell']) (by unfold maxLen; omega) (by omega) HS18.out.lt ?_; intro v19 w19 hown2 hgrow2 hb2; obtain ⟨h7, i7, rfl⟩ := owns_slice hown2; obtain ⟨x19, f19, k5⟩ := HS18.out.fn (f := badFn) HN18.out hown2 hgrow2 hb2; obtain ⟨W20, hW20⟩ : ∃ W, w19.setCell ⟨w15.heap.size, 0, none⟩ (.slice h7 (gs.length + 1) i7) = W := ⟨_, rfl⟩; rw [hW20] at k5; have HS20 := Lib.hid k5; have y0 : W20.cell? ⟨w15.heap.size, 0, none⟩ = some (.slice h7 (gs.length + 1) i7) := (k5.rq.cell 0).trans rfl; have y1 : W20.cell? ⟨w15.heap.size, 1, none⟩ = some (.slice h2 P.2.1.length i2) := (k5.rq.cell 1).trans rfl; have y2 : W20.cell? ⟨w15.heap.size, 2, none⟩ = some (.slice h3 ns.length i3) := (k5.rq.cell 2).trans rfl; clear hown2 hgrow2 hb2 k5)
          have B20 := Lib.hid (down_call B14.out HS20.out.be)
          have PB := Lib.hid (show prAt (fun _ => False) W20 (.slice h7 (gs.length + 1) i7) (.slice h2 P.2.1.length i2) (.slice h3 ns.length i3) (badP P) from by
            have := HS20.out.pr
            rw [List.map_append, HGS.out, HNS.out] at this
            exact this)
          have HQ := Lib.hid (HS14.out.below HS20.out.be)
          have PQ := Lib.hid (show prAt (fun _ => False) W20 (.slice g7 (fs.length + 1) e7) (.slice g10 (P.2.1.length + 1) e10) (.slice g13 (ms.length + 1) e13) (moreP P) from by
            have := HQ.out.pr
            rw [List.map_append, List.map_append, HFS.out, HMS.out] at this
            exact this)
          refine (ch8 (check_bad P 15) PB.out (prF_bad HF.out n1) (HT.out.below B20.out)).mono ?_
          rintro e w21 ⟨rfl, hb⟩
          clear hW16 hW17 hW18 hW20 t16 x19 f19 y0 y1 y2
          have B21 := Lib.hid (down_call B20.out hb)
          have PQ1 := Lib.hid (PQ.out.below hb)
          have RQ1 := Lib.hid (HQ.out.rq.below hb HQ.out.rq.lt)
          have RP1 := Lib.hid (R2.out.below (down_call (down_call HS14.out.be HS20.out.be) hb) R2.out.lt)
          clear hb
          by_cases hc0 : ck = 0
          · subst hc0
            have q0 : w21.cell? ⟨w3.heap.size, 0, none⟩ = some (.slice g7 (fs.length + 1) e7) := (RQ1.out.cell 0).trans rfl
            have q1 : w21.cell? ⟨w3.heap.size, 1, none⟩ = some (.slice g10 (P.2.1.length + 1) e10) := (RQ1.out.cell 1).trans rfl
            have q2 : w21.cell? ⟨w3.heap.size, 2, none⟩ = some (.slice g13 (ms.length + 1) e13) := (RQ1.out.cell 2).trans rfl
            go_wp2_with fail
            refine (ch8 (check_more HCK.out L1.out L2.out L3.out) PQ1.out (prF_more HF.out n1 n2 n3) (HT.out.below B21.out)).mono ?_
            rintro e w22 ⟨rfl, hb⟩
            have B22 := Lib.hid (down_call B21.out hb)
            clear q0 q1 q2
            obtain ⟨r22, x0, x1, x2⟩ := prog_row RP1.out hb
            have R22 := Lib.hid r22
            clear r22 hb
            go_wp2_with fail
            refine (ch8 (check_15 HFB.out HCK.out).1 (HP.out.below B22.out) HF.out (HT.out.below B22.out)).mono ?_
            rintro e w23 ⟨rfl, hb⟩
            have B23 := Lib.hid (down_call B22.out hb)
            clear x0 x1 x2
            obtain ⟨r23, x0, x1, x2⟩ := prog_row R22.out hb
            have R23 := Lib.hid r23
            clear r23 hb
            go_wp2_with fail
            refine (calls2_any (HP.out.below B23.out) HF.out (HT.out.below B23.out)).mono ?_
            rintro e w24 ⟨rfl, hb⟩
            have B24 := Lib.hid (down_call B23.out hb)
            clear x0 x1 x2 hb
            have ZN := Lib.hid (check_15 HFB.out HCK.out).2
            obtain ⟨cx, hcx⟩ : ∃ x, callsX P = x := ⟨_, rfl⟩
            rw [hcx] at ZN
            rw [hcx]
            clear hcx
            have zn := ZN.out
            go_wp2_with fail
            refine (wakes_any _ (HT.out.below B24.out)).mono ?_
            rintro e w25 ⟨rfl, hb⟩
            have BX := Lib.hid (down_call B24.out hb)
            go_wp2_with fail
            go_ret
            exact ⟨rfl, BX.out⟩
          · have h3' := check_three P fn
            rw [HCK.out] at h3'
            rcases h3' with h3' | h3' | h3'
            · exact absurd h3' hc0
            · subst h3'
              go_wp2_with fail
              refine (wakes_any _ (HT.out.below B21.out)).mono ?_
              rintro e w25 ⟨rfl, hb⟩
              have BX := Lib.hid (down_call B21.out hb)
              go_wp2_with fail
              go_ret
              exact ⟨rfl, BX.out⟩
            · subst h3'
              go_wp2_with fail
              refine (wakes_any _ (HT.out.below B21.out)).mono ?_
              rintro e w25 ⟨rfl, hb⟩
              have BX := Lib.hid (down_call B21.out hb)
              go_wp2_with fail
              go_ret
              exact ⟨rfl, BX.out⟩
  · clear hlg
    go_wp2_with fail
    refine (wakes_any _ (HT.out.below B1.out)).mono ?_
    rintro e w2 ⟨rfl, hb⟩
    have BX := Lib.hid (down_call B1.out hb)
    go_wp2_with fail
    go_ret
    exact ⟨rfl, BX.out⟩
end Go.Proofs.YtlfbfnkmbceejaaDoor
