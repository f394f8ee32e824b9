/-
  For every two sources the law LexRows returns true, and its arguments read as they did. Condition: the library's tables and errors and package lex's tables of words and signs read when the call begins as the program's text lays them (the card ties them).
-/
import Derived.Test.YtlidegofnkmenaaDoorLxT
import Derived.Test.YtlidegofnkmenaaDoorTie
import Derived.Test.YtlidegofnkmenaaDoorCards
import Derived.SevenTiedAt
import Derived.LaidMore
import Derived.Stop.Joined
import Derived.Deep.Cut
import Derived.Deep.DeepCutAuto
import Derived.Laws.DeepStrings4
import Derived.OrdersHeld
import Derived.Deep.RegionHeld3
import Derived.SizedLaws
namespace Go.Proofs.YtlidegofnkmenaaDoor.lexRows
open Go.ChangeShapes Go.WideShapes Go.ChangeAt Go.RowKit
set_option linter.unusedVariables false
set_option linter.unusedSimpArgs false
set_option linter.unusedVariables false
set_option maxRecDepth 100000

theorem own : ownKnob Tryd.prog.godebug = none := by kernel_rfl
theorem laidOut : laidOutB Tryd.prog = true := by kernel_rfl

set_option maxHeartbeats 8000000
section
variable {H : Type} {P : Program}
/-- Nothing of it is longer than memory's reach. -/
def WB (P : Program) (t : TypeId) (d : DataW H) : Prop := ∀ n ∈ d.weights P t, n ≤ reachBytes
theorem wb_of {ts ts' : List TypeId} {ds gs : List (DataW H)} (hz : (DataW.weightsEach P (ts ++ ts') (ds ++ gs)).all (· ≤ reachBytes) = true) {j : Nat} {t : TypeId} {d : DataW H} (ht : ts[j]? = some t) (hd : ds[j]? = some d) : WB P t d := fun n hn => by
  have h1 : (ts ++ ts')[j]? = some t := by rw [List.getElem?_append_left (List.getElem?_eq_some_iff.1 ht).1]; exact ht
  have h2 : (ds ++ gs)[j]? = some d := by rw [List.getElem?_append_left (List.getElem?_eq_some_iff.1 hd).1]; exact hd
  have := List.all_eq_true.1 hz n (DataW.weights_mem_each h1 h2 n hn)
  simpa using this
theorem str_reach {t : TypeId} {s : ByteArray} (h : WB P t (.lit (.string s.data.toList) : DataW H)) : s.size ≤ 140737488351232 := by
  have := h s.data.toList.length (by simp [DataW.weights])
  rw [← Lib.size_eq] at this
  unfold reachBytes at this
  omega
end
theorem ls_app (a b : ByteArray) : Ls (a ++ b) = Ls a ++ Ls b := by simp [Ls]
theorem size_app (a b : ByteArray) : (a ++ b).size = a.size + b.size := by rw [← ls_len, ls_app, List.length_append, ls_len, ls_len]
def shT (d : Nat) (x : PTk) : PTk := (x.1, x.2.1, x.2.2 + d)
theorem ls_inj {a b : ByteArray} (h : Ls a = Ls b) : a = b := ByteArray.ext (Array.ext' h)
/-- A part of a text. -/
theorem slice_is (s z : ByteArray) (p : Nat) (h1 : p + z.size ≤ s.size) (h2 : ((Ls s).drop p).take z.size = Ls z) (w : World) :
    (Instr.slice 9 (.string s) (some (.int .i64 p)) (some (.int .i64 ((p : Int) + z.size))) none).run Tryd.prog w = .ok (.string z) w := by
  rw [run_slice_string_if w 9 s .i64 .i64 p ((p : Int) + z.size) Tryd.underlying9]
  rw [if_pos (by omega), if_pos (by omega)]
  congr 2
  apply ls_inj
  rw [← h2, Ls, Lib.extract_data]
  congr 1
  omega
/-- What the three sources come to. -/
def RowsP (s t : ByteArray) (A B C : List PTk) (e1 e2 e3 : Int) (f1 f2 f3 : Nat) : Prop :=
  e1 = 11 ∧ A = [] ∧ f1 < s.size ∨
  e1 = 0 ∧ f1 = 0 ∧ A.length ≤ s.size ∧ (∀ (i : Nat) (x : PTk), A[i]? = some x → x.2.2 < s.size ∧ (x.1 ≠ 4 → x.2.2 + x.2.1.length ≤ s.size ∧ ((Ls s).drop x.2.2).take x.2.1.length = x.2.1)) ∧
    (e2 = 11 ∧ e3 = 11 ∧ f2 < t.size ∧ f3 = f2 + (s.size + 1) ∨ e2 = 0 ∧ e3 = 0 ∧ B.length ≤ t.size ∧ C = A ++ B.map (shT (s.size + 1)) ∧ ∀ (i : Nat) (x : PTk), B[i]? = some x → x.2.2 < t.size)
theorem rows_facts (s t : ByteArray) (h1 : s.size ≤ 1500) (h2 : t.size ≤ 1500) (hl : Ls (s ++ ⟨#[10]⟩ ++ t) = Ls s ++ 10 :: Ls t) (h3 : (s ++ ⟨#[10]⟩ ++ t).size ≤ 2000) :
    RowsP s t (tkL (Ls s)) (tkL (Ls t)) (tkL (Ls (s ++ ⟨#[10]⟩ ++ t))) (tkE (Ls s)) (tkE (Ls t)) (tkE (Ls (s ++ ⟨#[10]⟩ ++ t))) (tkA (Ls s)) (tkA (Ls t)) (tkA (Ls (s ++ ⟨#[10]⟩ ++ t))) := by
  have hs := ls_len s
  have ht := ls_len t
  have hL : (Ls (s ++ ⟨#[10]⟩ ++ t)).length ≤ 2000 := by rw [ls_len]; exact h3
  cases hf : (toks 0 (Ls s)).2 with
  | some f =>
    obtain ⟨a1, a2, a3⟩ := tk_bad (by omega) hf
    have := (toks_place 0 (Ls s)).2 f hf
    exact .inl ⟨a1, a3, by rw [a2]; omega⟩
  | none =>
    obtain ⟨A, hA⟩ : ∃ A, (toks 0 (Ls s)).1 = A := ⟨_, rfl⟩
    have hT : toks 0 (Ls s) = (A, none) := by rw [← hA, ← hf]
    obtain ⟨a1, a2, a3⟩ := tk_good (by omega) hT
    have hpl := (toks_place 0 (Ls s)).1
    have hln := toks_len 0 (Ls s)
    rw [hA] at hpl hln
    have hrow := toks_row (Ls t) 0 (Ls s) A hT
    rw [← hl, hs, show 0 + s.size + 1 = 0 + (s.size + 1) by omega, toks_shift] at hrow
    refine .inr ⟨a1, a2, by rw [a3]; omega, fun i x hx => ?_, ?_⟩
    · rw [a3] at hx
      obtain ⟨b1, b2, b3⟩ := hpl x (List.mem_of_getElem? hx)
      rw [hs, Nat.sub_zero] at b3
      exact ⟨by omega, b3⟩
    · cases hg : (toks 0 (Ls t)).2 with
      | some g =>
        obtain ⟨c1, c2, c3⟩ := tk_bad (by omega) hg
        have hb := (toks_place 0 (Ls t)).2 g hg
        rw [hg] at hrow
        obtain ⟨d1, d2, d3⟩ := tk_bad (a := g + (s.size + 1)) hL (by rw [hrow]; rfl)
        exact .inl ⟨c1, d1, by rw [c2]; omega, by rw [d2, c2]⟩
      | none =>
        obtain ⟨B, hB⟩ : ∃ B, (toks 0 (Ls t)).1 = B := ⟨_, rfl⟩
        have hU : toks 0 (Ls t) = (B, none) := by rw [← hB, ← hg]
        obtain ⟨c1, c2, c3⟩ := tk_good (by omega) hU
        have hpl2 := (toks_place 0 (Ls t)).1
        have hln2 := toks_len 0 (Ls t)
        rw [hB] at hpl2 hln2
        rw [hB, hg] at hrow
        obtain ⟨d1, d2, d3⟩ := tk_good (D := A ++ B.map (shT (s.size + 1))) hL (by rw [hrow]; rfl)
        refine .inr ⟨c1, d1, by rw [c3]; omega, by rw [d3, a3, c3], fun i x hx => ?_⟩
        rw [c3] at hx
        have := hpl2 x (List.mem_of_getElem? hx)
        omega

theorem walk (s t : ByteArray) (w0 : s.size ≤ 140737488351232) (w1 : t.size ≤ 140737488351232) (w : World) (T : LxTab w) :
    Calls Tryd.prog 5 #[.string s, .string t] w fun e w' => e = .returned (.bool true) ∧ Below w.heap.size w w' := by
  have LL : Hid (Lw w w) := Lib.hid ⟨T, Below.refl _ _⟩
  by_cases hbig : 1500 < s.size + t.size
  · have i0 : (1500 : Int) < (s.size : Int) + t.size := by omega
    clear hbig T
    go_enter Tryd.func5, Tryd.ntmps5
    go_wp2_with (go_at_call 9; refine (wakes_any _ LL.out.tab).mono ?_; rintro e wn ⟨rfl, hb⟩; replace LL := Lib.hid (LL.out.on hb); clear hb)
    go_ret
    exact ⟨rfl, LL.out.bel⟩
  have i0 : (s.size : Int) + t.size ≤ 1500 := by omega
  have b0 : s.size ≤ 1500 := by omega
  have b1 : t.size ≤ 1500 := by omega
  have hlr : Ls (s ++ ⟨#[10]⟩ ++ t) = Ls s ++ 10 :: Ls t := by rw [ls_app, ls_app]; simp [Ls]
  have hsz : (s ++ ⟨#[10]⟩ ++ t).size = s.size + 1 + t.size := by rw [size_app, size_app]; rfl
  have j1 : s.size + 1 ≤ 9223372036854775807 := by omega
  have j2 : s.size + 1 + t.size ≤ 9223372036854775807 := by omega
  clear T w0 w1
  have FE := run_flt_eq
  have TE := run_tk_eq
  obtain ⟨n3, hn3⟩ : ∃ n, (tkL (Ls (s ++ ⟨#[10]⟩ ++ t))).length = n := ⟨_, rfl⟩
  have HTK3 := fun W T => tokens_at (s := s ++ ⟨#[10]⟩ ++ t) (by rw [hsz]; omega) rfl rfl rfl hn3 W T
  obtain ⟨n2, hn2⟩ : ∃ n, (tkL (Ls t)).length = n := ⟨_, rfl⟩
  have HTK2 := fun W T => tokens_at (s := t) (by omega) rfl rfl rfl hn2 W T
  obtain ⟨n1, hn1⟩ : ∃ n, (tkL (Ls s)).length = n := ⟨_, rfl⟩
  have HTK1 := fun W T => tokens_at (s := s) (by omega) rfl rfl rfl hn1 W T
  have HFA := Lib.hid (rows_facts s t b0 b1 hlr (by rw [hsz]; omega))
  generalize tkL (Ls s) = A at hn1 HTK1 HFA
  generalize tkL (Ls t) = B at hn2 HTK2 HFA
  generalize tkL (Ls (s ++ ⟨#[10]⟩ ++ t)) = C at hn3 HTK3 HFA
  generalize tkE (Ls s) = e1 at HTK1 HFA
  generalize tkE (Ls t) = e2 at HTK2 HFA
  generalize tkE (Ls (s ++ ⟨#[10]⟩ ++ t)) = e3 at HTK3 HFA
  generalize tkA (Ls s) = f1 at HTK1 HFA
  generalize tkA (Ls t) = f2 at HTK2 HFA
  generalize tkA (Ls (s ++ ⟨#[10]⟩ ++ t)) = f3 at HTK3 HFA
  clear hlr hsz
  go_enter Tryd.func5, Tryd.ntmps5
  go_wp2_with fail
  refine (HTK1 _ LL.out.tab).mono ?_
  rintro e v1 ⟨a1, c1, rfl, hk, hb⟩
  have L1 := Lib.hid ((LL.out.on hb).alloc (.cells #[.int .i64 e1, .int .i64 f1] 26))
  have K1 := Lib.hid (hk.below (below_alloc (.cells #[.int .i64 e1, .int .i64 f1] 26)))
  have R1 := Lib.hid (flt_made v1 (.int .i64 e1) (.int .i64 f1))
  clear hk hb HTK1
  go_wp2_with fail
  refine (HTK2 _ L1.out.tab).mono ?_
  rintro e v2 ⟨a2, c2, rfl, hk, hb⟩
  have L2 := Lib.hid ((L1.out.on hb).alloc (.cells #[.int .i64 e2, .int .i64 f2] 26))
  have K2 := Lib.hid (hk.below (below_alloc (.cells #[.int .i64 e2, .int .i64 f2] 26)))
  have R2 := Lib.hid (flt_made v2 (.int .i64 e2) (.int .i64 f2))
  replace K1 := Lib.hid ((K1.out.below hb).below (below_alloc (.cells #[.int .i64 e2, .int .i64 f2] 26)))
  replace R1 := Lib.hid ((R1.out.below hb R1.out.lt).alloc (.cells #[.int .i64 e2, .int .i64 f2] 26))
  clear hk hb HTK2
  go_wp2_with fail
  refine (HTK3 _ L2.out.tab).mono ?_
  rintro e v3 ⟨a3, c3, rfl, hk, hb⟩
  have L3 := Lib.hid ((L2.out.on hb).alloc (.cells #[.int .i64 e3, .int .i64 f3] 26))
  have K3 := Lib.hid (hk.below (below_alloc (.cells #[.int .i64 e3, .int .i64 f3] 26)))
  have R3 := Lib.hid (flt_made v3 (.int .i64 e3) (.int .i64 f3))
  replace K1 := Lib.hid ((K1.out.below hb).below (below_alloc (.cells #[.int .i64 e3, .int .i64 f3] 26)))
  replace R1 := Lib.hid ((R1.out.below hb R1.out.lt).alloc (.cells #[.int .i64 e3, .int .i64 f3] 26))
  replace K2 := Lib.hid ((K2.out.below hb).below (below_alloc (.cells #[.int .i64 e3, .int .i64 f3] 26)))
  replace R2 := Lib.hid ((R2.out.below hb R2.out.lt).alloc (.cells #[.int .i64 e3, .int .i64 f3] 26))
  clear hk hb HTK3
  have LW := Lib.hid L3.out
  clear L1 L2
  have p1 := R1.out.cell 0; have q1 := R1.out.cell 1
  simp only [List.getElem?_cons_zero, List.getElem?_cons_succ] at p1 q1
  go_upto_region 6 with fail
  rcases HFA.out with ⟨rfl, hA, hf⟩ | ⟨rfl, rfl, hAl, hpl, hrest⟩
  · subst hA
    obtain rfl : n1 = 0 := by rw [← hn1]; rfl
    have i2 : (f1 : Int) < s.size := by omega
    obtain ⟨V, hV⟩ : ∃ V, v3.alloc (.cells #[.int .i64 e3, .int .i64 f3] 26) = V := ⟨_, rfl⟩
    rw [hV] at L3 p1 q1 ⊢
    have LL := L3
    clear HFA K1 K2 K3 R1 R2 R3 hV hn2 hn3 hf hn1
    go_wp2_with (go_at_call 9; refine (wakes_any _ LL.out.tab).mono ?_; rintro e wn ⟨rfl, hb⟩; replace LL := Lib.hid (LL.out.on hb); clear hb)
    go_ret
    exact ⟨rfl, LL.out.bel⟩
  · obtain ⟨V, hV⟩ : ∃ V, v3.alloc (.cells #[.int .i64 e3, .int .i64 f3] 26) = V := ⟨_, rfl⟩
    rw [hV] at L3 p1 q1 K1 K2 K3 R1 R2 R3 ⊢
    rw [show ((0 : Nat) : Int) = 0 from rfl] at q1 ⊢
    have HPL := Lib.hid hpl
    have HRE := Lib.hid hrest
    clear HFA hV hpl hrest LW
    go_wp2_with fail
    go_loopw [11] (fun i wr => ∃ k : Nat, i = .int .i64 k ∧ k ≤ n1 ∧ Hid (Below V.heap.size V wr)) (fun i _ => n1 - (intOf i).toNat)
    case atStart => exact ⟨0, rfl, by omega, Lib.hid (Below.refl _ _)⟩
    case round =>
      obtain ⟨k, rfl, hk, HB⟩ := hrel
      by_cases hkn : k < n1
      · have hkA : k < A.length := by omega
        obtain ⟨x, hx⟩ : ∃ x, A[k]? = some x := ⟨_, List.getElem?_eq_getElem hkA⟩
        obtain ⟨hp, hpt⟩ := HPL.out k x hx
        have kr := K1.out.below HB.out
        obtain ⟨g, rfl, hg, hgc, hcell⟩ := kr.cells (by omega)
        obtain ⟨x0, x1, x2⟩ := hcell k x hx
        obtain ⟨kd, tx, p⟩ := x
        simp only at hp hpt x0 x1 x2
        obtain ⟨z, hz⟩ : ∃ z : ByteArray, z = ⟨tx.toArray⟩ := ⟨_, rfl⟩
        have hlz : Ls z = tx := by rw [hz, ls_mk]
        rw [← hz] at x1
        rw [← hlz, ls_len] at hpt
        clear hcell kr hx hkA hz hlz
        have i2 : (k : Int) < n1 := by omega
        have i3 : decide ((p : Int) < 0) = false := decide_eq_false (by omega)
        have i4 : decide ((s.size : Int) ≤ p) = false := decide_eq_false (by omega)
        by_cases h4 : kd = 4
        · subst h4
          clear hpt
          go_upto_region 12 with fail
          refine wp_region_held_drew (S := fun w' => w'.cell? ⟨wr.heap.size, 0, none⟩ = some (.int .i64 4) ∧ w'.cell? ⟨wr.heap.size, 1, none⟩ = some (.string z) ∧ w'.cell? ⟨wr.heap.size, 2, none⟩ = some (.int .i64 p)) (by kernel_rfl) (⟨((tok_made wr (.int .i64 4) (.string z) (.int .i64 p)).drew.cell 0).trans rfl, ((tok_made wr (.int .i64 4) (.string z) (.int .i64 p)).drew.cell 1).trans rfl, ((tok_made wr (.int .i64 4) (.string z) (.int .i64 p)).drew.cell 2).trans rfl⟩) (fun hH0 => ?_)
          refine wpAnyH_take (i := 0) (oi := _) (v := ?_) (by simp only [List.getElem?_toArray, List.getElem?_cons_succ, List.getElem?_cons_zero]; rfl) (by kernel_rfl) (by kernel_rfl) (by kernel_rfl) (by exact fun _ _ _ h => h) (Or.inl ⟨by rfl, ?_⟩) (by assumption) ?_
          rotate_left
          · (intro w hSw; (try dsimp only at hSw); go_simp; try with_reducible rfl)
          try simp only [Act.put, List.setIfInBounds_toArray, List.set_cons_zero, List.set_cons_succ]
          refine wpAnyH_take (i := 1) (oi := _) (v := ?_) (by simp only [List.getElem?_toArray, List.getElem?_cons_succ, List.getElem?_cons_zero]; rfl) (by kernel_rfl) (by kernel_rfl) (by kernel_rfl) (by exact fun _ _ _ h => h) (Or.inl ⟨by rfl, ?_⟩) (by assumption) ?_
          rotate_left
          · (intro w hSw; (try dsimp only at hSw); go_simp; try with_reducible rfl)
          try simp only [Act.put, List.setIfInBounds_toArray, List.set_cons_zero, List.set_cons_succ]
          refine wpAnyH_take (i := 2) (oi := _) (v := .bool false) (by simp only [List.getElem?_toArray, List.getElem?_cons_succ, List.getElem?_cons_zero]; rfl) (by kernel_rfl) (by kernel_rfl) (by kernel_rfl) (by exact fun _ _ _ h => h) (Or.inl ⟨by rfl, ?_⟩) (by assumption) ?_
          · (intro w hSw; (try dsimp only at hSw); go_simp; (try simp [i3, i4]))
          try simp only [Act.put, List.setIfInBounds_toArray, List.set_cons_zero, List.set_cons_succ]
          refine wpAnyH_take (i := 3) (oi := _) (v := .bool false) (by simp only [List.getElem?_toArray, List.getElem?_cons_succ, List.getElem?_cons_zero]; rfl) (by kernel_rfl) (by kernel_rfl) (by kernel_rfl) (by exact fun _ _ _ h => h) (Or.inl ⟨by rfl, ?_⟩) (by assumption) ?_
          · (intro w hSw; (try dsimp only at hSw); go_simp; (try simp [i3, i4]))
          try simp only [Act.put, List.setIfInBounds_toArray, List.set_cons_zero, List.set_cons_succ]
          refine wpAnyH_take (i := 4) (oi := _) (v := ?_) (by simp only [List.getElem?_toArray, List.getElem?_cons_succ, List.getElem?_cons_zero]; rfl) (by kernel_rfl) (by kernel_rfl) (by kernel_rfl) (by exact fun _ _ _ h => h) (Or.inl ⟨by rfl, ?_⟩) (by assumption) ?_
          rotate_left
          · (intro w hSw; (try dsimp only at hSw); go_simp; try with_reducible rfl)
          try simp only [Act.put, List.setIfInBounds_toArray, List.set_cons_zero, List.set_cons_succ]
          refine wpAnyH_take (i := 5) (oi := _) (v := ?_) (by simp only [List.getElem?_toArray, List.getElem?_cons_succ, List.getElem?_cons_zero]; rfl) (by kernel_rfl) (by kernel_rfl) (by kernel_rfl) (by exact fun _ _ _ h => h) (Or.inl ⟨by rfl, ?_⟩) (by assumption) ?_
          rotate_left
          · (intro w hSw; (try dsimp only at hSw); go_simp; try with_reducible rfl)
          try simp only [Act.put, List.setIfInBounds_toArray, List.set_cons_zero, List.set_cons_succ]
          refine wpAnyH_take (i := 6) (oi := _) (v := ?_) (by simp only [List.getElem?_toArray, List.getElem?_cons_succ, List.getElem?_cons_zero]; rfl) (by kernel_rfl) (by kernel_rfl) (by kernel_rfl) (by exact fun _ _ _ h => h) (Or.inl ⟨by rfl, ?_⟩) (by assumption) ?_
          rotate_left
          · (intro w hSw; (try dsimp only at hSw); go_simp; try with_reducible rfl)
          try simp only [Act.put, List.setIfInBounds_toArray, List.set_cons_zero, List.set_cons_succ]
          refine wpAnyH_take (i := 7) (oi := _) (v := ?_) (by simp only [List.getElem?_toArray, List.getElem?_cons_succ, List.getElem?_cons_zero]; rfl) (by kernel_rfl) (by kernel_rfl) (by kernel_rfl) (by exact fun _ _ _ h => h) (Or.inl ⟨by rfl, ?_⟩) (by assumption) ?_
          rotate_left
          · (intro w hSw; (try dsimp only at hSw); go_simp; try with_reducible rfl)
          try simp only [Act.put, List.setIfInBounds_toArray, List.set_cons_zero, List.set_cons_succ]
          refine wpAnyH_take (i := 8) (oi := _) (v := .bool false) (by simp only [List.getElem?_toArray, List.getElem?_cons_succ, List.getElem?_cons_zero]; rfl) (by kernel_rfl) (by kernel_rfl) (by kernel_rfl) (by exact fun _ _ _ h => h) (Or.inl ⟨by rfl, ?_⟩) (by assumption) ?_
          · (intro w hSw; (try dsimp only at hSw); go_simp; (try simp [i3, i4]))
          try simp only [Act.put, List.setIfInBounds_toArray, List.set_cons_zero, List.set_cons_succ]
          refine wpAnyH_take (i := 9) (oi := _) (v := .bool false) (by simp only [List.getElem?_toArray, List.getElem?_cons_succ, List.getElem?_cons_zero]; rfl) (by kernel_rfl) (by kernel_rfl) (by kernel_rfl) (by exact fun _ _ _ h => h) (Or.inl ⟨by rfl, ?_⟩) (by assumption) ?_
          · (intro w hSw; (try dsimp only at hSw); go_simp; (try simp [i3, i4]))
          try simp only [Act.put, List.setIfInBounds_toArray, List.set_cons_zero, List.set_cons_succ]
          refine wpAnyH_take (i := 10) (oi := _) (v := .bool false) (by simp only [List.getElem?_toArray, List.getElem?_cons_succ, List.getElem?_cons_zero]; rfl) (by kernel_rfl) (by kernel_rfl) (by kernel_rfl) (by exact fun _ _ _ h => h) (Or.inl ⟨by rfl, ?_⟩) (by assumption) ?_
          · (intro w hSw; (try dsimp only at hSw); go_simp; (try simp [i3, i4]))
          try simp only [Act.put, List.setIfInBounds_toArray, List.set_cons_zero, List.set_cons_succ]
          refine wpAnyH_take (i := 11) (oi := _) (v := ?_) (by simp only [List.getElem?_toArray, List.getElem?_cons_succ, List.getElem?_cons_zero]; rfl) (by kernel_rfl) (by kernel_rfl) (by kernel_rfl) (by exact fun _ _ _ h => h) (Or.inl ⟨by rfl, ?_⟩) (by assumption) ?_
          rotate_left
          · (intro w hSw; (try dsimp only at hSw); go_simp; try with_reducible rfl)
          try simp only [Act.put, List.setIfInBounds_toArray, List.set_cons_zero, List.set_cons_succ]
          refine wpAnyH_take (i := 12) (oi := _) (v := ?_) (by simp only [List.getElem?_toArray, List.getElem?_cons_succ, List.getElem?_cons_zero]; rfl) (by kernel_rfl) (by kernel_rfl) (by kernel_rfl) (by exact fun _ _ _ h => h) (Or.inl ⟨by rfl, ?_⟩) (by assumption) ?_
          rotate_left
          · (intro w hSw; (try dsimp only at hSw); go_simp; try with_reducible rfl)
          try simp only [Act.put, List.setIfInBounds_toArray, List.set_cons_zero, List.set_cons_succ]
          refine wpAnyH_take (i := 13) (oi := _) (v := .bool false) (by simp only [List.getElem?_toArray, List.getElem?_cons_succ, List.getElem?_cons_zero]; rfl) (by kernel_rfl) (by kernel_rfl) (by kernel_rfl) (by exact fun _ _ _ h => h) (Or.inl ⟨by rfl, ?_⟩) (by assumption) ?_
          · (intro w hSw; (try dsimp only at hSw); go_simp; (try simp []))
          try simp only [Act.put, List.setIfInBounds_toArray, List.set_cons_zero, List.set_cons_succ]
          refine wpAnyH_take (i := 14) (oi := _) (v := .bool false) (by simp only [List.getElem?_toArray, List.getElem?_cons_succ, List.getElem?_cons_zero]; rfl) (by kernel_rfl) (by kernel_rfl) (by kernel_rfl) (by exact fun _ _ _ h => h) (Or.inl ⟨by rfl, ?_⟩) (by assumption) ?_
          · (intro w hSw; (try dsimp only at hSw); go_simp; (try simp []))
          try simp only [Act.put, List.setIfInBounds_toArray, List.set_cons_zero, List.set_cons_succ]
          refine wpAnyH_take (i := 15) (oi := _) (v := undef) (by simp only [List.getElem?_toArray, List.getElem?_cons_succ, List.getElem?_cons_zero]; rfl) (by kernel_rfl) (by kernel_rfl) (by kernel_rfl) (by exact fun _ _ _ h => h) (Or.inr ⟨by rfl, rfl⟩) (by assumption) ?_
          try simp only [Act.put, List.setIfInBounds_toArray, List.set_cons_zero, List.set_cons_succ]
          refine wpAnyH_take (i := 16) (oi := _) (v := undef) (by simp only [List.getElem?_toArray, List.getElem?_cons_succ, List.getElem?_cons_zero]; rfl) (by kernel_rfl) (by kernel_rfl) (by kernel_rfl) (by exact fun _ _ _ h => h) (Or.inr ⟨by rfl, rfl⟩) (by assumption) ?_
          try simp only [Act.put, List.setIfInBounds_toArray, List.set_cons_zero, List.set_cons_succ]
          refine wpAnyH_take (i := 17) (oi := _) (v := undef) (by simp only [List.getElem?_toArray, List.getElem?_cons_succ, List.getElem?_cons_zero]; rfl) (by kernel_rfl) (by kernel_rfl) (by kernel_rfl) (by exact fun _ _ _ h => h) (Or.inr ⟨by rfl, rfl⟩) (by assumption) ?_
          try simp only [Act.put, List.setIfInBounds_toArray, List.set_cons_zero, List.set_cons_succ]
          refine wpAnyH_take (i := 18) (oi := _) (v := undef) (by simp only [List.getElem?_toArray, List.getElem?_cons_succ, List.getElem?_cons_zero]; rfl) (by kernel_rfl) (by kernel_rfl) (by kernel_rfl) (by exact fun _ _ _ h => h) (Or.inr ⟨by rfl, rfl⟩) (by assumption) ?_
          try simp only [Act.put, List.setIfInBounds_toArray, List.set_cons_zero, List.set_cons_succ]
          refine wpAnyH_take (i := 19) (oi := _) (v := undef) (by simp only [List.getElem?_toArray, List.getElem?_cons_succ, List.getElem?_cons_zero]; rfl) (by kernel_rfl) (by kernel_rfl) (by kernel_rfl) (by exact fun _ _ _ h => h) (Or.inr ⟨by rfl, rfl⟩) (by assumption) ?_
          try simp only [Act.put, List.setIfInBounds_toArray, List.set_cons_zero, List.set_cons_succ]
          refine wpAnyH_take (i := 20) (oi := _) (v := undef) (by simp only [List.getElem?_toArray, List.getElem?_cons_succ, List.getElem?_cons_zero]; rfl) (by kernel_rfl) (by kernel_rfl) (by kernel_rfl) (by exact fun _ _ _ h => h) (Or.inr ⟨by rfl, rfl⟩) (by assumption) ?_
          try simp only [Act.put, List.setIfInBounds_toArray, List.set_cons_zero, List.set_cons_succ]
          refine wpAnyH_take (i := 21) (oi := _) (v := undef) (by simp only [List.getElem?_toArray, List.getElem?_cons_succ, List.getElem?_cons_zero]; rfl) (by kernel_rfl) (by kernel_rfl) (by kernel_rfl) (by exact fun _ _ _ h => h) (Or.inr ⟨by rfl, rfl⟩) (by assumption) ?_
          try simp only [Act.put, List.setIfInBounds_toArray, List.set_cons_zero, List.set_cons_succ]
          refine wpAnyH_take (i := 22) (oi := _) (v := undef) (by simp only [List.getElem?_toArray, List.getElem?_cons_succ, List.getElem?_cons_zero]; rfl) (by kernel_rfl) (by kernel_rfl) (by kernel_rfl) (by exact fun _ _ _ h => h) (Or.inr ⟨by rfl, rfl⟩) (by assumption) ?_
          try simp only [Act.put, List.setIfInBounds_toArray, List.set_cons_zero, List.set_cons_succ]
          refine wpAnyH_take (i := 23) (oi := _) (v := undef) (by simp only [List.getElem?_toArray, List.getElem?_cons_succ, List.getElem?_cons_zero]; rfl) (by kernel_rfl) (by kernel_rfl) (by kernel_rfl) (by exact fun _ _ _ h => h) (Or.inr ⟨by rfl, rfl⟩) (by assumption) ?_
          try simp only [Act.put, List.setIfInBounds_toArray, List.set_cons_zero, List.set_cons_succ]
          refine wpAnyH_take (i := 24) (oi := _) (v := undef) (by simp only [List.getElem?_toArray, List.getElem?_cons_succ, List.getElem?_cons_zero]; rfl) (by kernel_rfl) (by kernel_rfl) (by kernel_rfl) (by exact fun _ _ _ h => h) (Or.inr ⟨by rfl, rfl⟩) (by assumption) ?_
          try simp only [Act.put, List.setIfInBounds_toArray, List.set_cons_zero, List.set_cons_succ]
          refine wpAnyH_take (i := 25) (oi := _) (v := undef) (by simp only [List.getElem?_toArray, List.getElem?_cons_succ, List.getElem?_cons_zero]; rfl) (by kernel_rfl) (by kernel_rfl) (by kernel_rfl) (by exact fun _ _ _ h => h) (Or.inr ⟨by rfl, rfl⟩) (by assumption) ?_
          try simp only [Act.put, List.setIfInBounds_toArray, List.set_cons_zero, List.set_cons_succ]
          refine wpAnyH_take (i := 26) (oi := _) (v := undef) (by simp only [List.getElem?_toArray, List.getElem?_cons_succ, List.getElem?_cons_zero]; rfl) (by kernel_rfl) (by kernel_rfl) (by kernel_rfl) (by exact fun _ _ _ h => h) (Or.inr ⟨by rfl, rfl⟩) (by assumption) ?_
          try simp only [Act.put, List.setIfInBounds_toArray, List.set_cons_zero, List.set_cons_succ]
          refine wpAnyH_take (i := 27) (oi := _) (v := undef) (by simp only [List.getElem?_toArray, List.getElem?_cons_succ, List.getElem?_cons_zero]; rfl) (by kernel_rfl) (by kernel_rfl) (by kernel_rfl) (by exact fun _ _ _ h => h) (Or.inr ⟨by rfl, rfl⟩) (by assumption) ?_
          try simp only [Act.put, List.setIfInBounds_toArray, List.set_cons_zero, List.set_cons_succ]
          refine wpAnyH_take (i := 28) (oi := _) (v := undef) (by simp only [List.getElem?_toArray, List.getElem?_cons_succ, List.getElem?_cons_zero]; rfl) (by kernel_rfl) (by kernel_rfl) (by kernel_rfl) (by exact fun _ _ _ h => h) (Or.inr ⟨by rfl, rfl⟩) (by assumption) ?_
          try simp only [Act.put, List.setIfInBounds_toArray, List.set_cons_zero, List.set_cons_succ]
          refine wpAnyH_take (i := 29) (oi := _) (v := undef) (by simp only [List.getElem?_toArray, List.getElem?_cons_succ, List.getElem?_cons_zero]; rfl) (by kernel_rfl) (by kernel_rfl) (by kernel_rfl) (by exact fun _ _ _ h => h) (Or.inr ⟨by rfl, rfl⟩) (by assumption) ?_
          try simp only [Act.put, List.setIfInBounds_toArray, List.set_cons_zero, List.set_cons_succ]
          refine wpAnyH_take (i := 30) (oi := _) (v := undef) (by simp only [List.getElem?_toArray, List.getElem?_cons_succ, List.getElem?_cons_zero]; rfl) (by kernel_rfl) (by kernel_rfl) (by kernel_rfl) (by exact fun _ _ _ h => h) (Or.inr ⟨by rfl, rfl⟩) (by assumption) ?_
          try simp only [Act.put, List.setIfInBounds_toArray, List.set_cons_zero, List.set_cons_succ]
          refine wpAnyH_take (i := 31) (oi := _) (v := undef) (by simp only [List.getElem?_toArray, List.getElem?_cons_succ, List.getElem?_cons_zero]; rfl) (by kernel_rfl) (by kernel_rfl) (by kernel_rfl) (by exact fun _ _ _ h => h) (Or.inr ⟨by rfl, rfl⟩) (by assumption) ?_
          try simp only [Act.put, List.setIfInBounds_toArray, List.set_cons_zero, List.set_cons_succ]
          refine wpAnyH_take (i := 32) (oi := _) (v := undef) (by simp only [List.getElem?_toArray, List.getElem?_cons_succ, List.getElem?_cons_zero]; rfl) (by kernel_rfl) (by kernel_rfl) (by kernel_rfl) (by exact fun _ _ _ h => h) (Or.inr ⟨by rfl, rfl⟩) (by assumption) ?_
          try simp only [Act.put, List.setIfInBounds_toArray, List.set_cons_zero, List.set_cons_succ]
          refine wpAnyH_take (i := 33) (oi := _) (v := undef) (by simp only [List.getElem?_toArray, List.getElem?_cons_succ, List.getElem?_cons_zero]; rfl) (by kernel_rfl) (by kernel_rfl) (by kernel_rfl) (by exact fun _ _ _ h => h) (Or.inr ⟨by rfl, rfl⟩) (by assumption) ?_
          try simp only [Act.put, List.setIfInBounds_toArray, List.set_cons_zero, List.set_cons_succ]
          refine wpAnyH_take (i := 34) (oi := _) (v := undef) (by simp only [List.getElem?_toArray, List.getElem?_cons_succ, List.getElem?_cons_zero]; rfl) (by kernel_rfl) (by kernel_rfl) (by kernel_rfl) (by exact fun _ _ _ h => h) (Or.inr ⟨by rfl, rfl⟩) (by assumption) ?_
          try simp only [Act.put, List.setIfInBounds_toArray, List.set_cons_zero, List.set_cons_succ]
          refine wpAnyH_take (i := 35) (oi := _) (v := undef) (by simp only [List.getElem?_toArray, List.getElem?_cons_succ, List.getElem?_cons_zero]; rfl) (by kernel_rfl) (by kernel_rfl) (by kernel_rfl) (by exact fun _ _ _ h => h) (Or.inr ⟨by rfl, rfl⟩) (by assumption) ?_
          try simp only [Act.put, List.setIfInBounds_toArray, List.set_cons_zero, List.set_cons_succ]
          refine wpAnyH_take (i := 36) (oi := _) (v := undef) (by simp only [List.getElem?_toArray, List.getElem?_cons_succ, List.getElem?_cons_zero]; rfl) (by kernel_rfl) (by kernel_rfl) (by kernel_rfl) (by exact fun _ _ _ h => h) (Or.inr ⟨by rfl, rfl⟩) (by assumption) ?_
          try simp only [Act.put, List.setIfInBounds_toArray, List.set_cons_zero, List.set_cons_succ]
          refine wpAnyH_take (i := 37) (oi := _) (v := undef) (by simp only [List.getElem?_toArray, List.getElem?_cons_succ, List.getElem?_cons_zero]; rfl) (by kernel_rfl) (by kernel_rfl) (by kernel_rfl) (by exact fun _ _ _ h => h) (Or.inr ⟨by rfl, rfl⟩) (by assumption) ?_
          try simp only [Act.put, List.setIfInBounds_toArray, List.set_cons_zero, List.set_cons_succ]
          refine wpAnyH_take (i := 38) (oi := _) (v := undef) (by simp only [List.getElem?_toArray, List.getElem?_cons_succ, List.getElem?_cons_zero]; rfl) (by kernel_rfl) (by kernel_rfl) (by kernel_rfl) (by exact fun _ _ _ h => h) (Or.inr ⟨by rfl, rfl⟩) (by assumption) ?_
          try simp only [Act.put, List.setIfInBounds_toArray, List.set_cons_zero, List.set_cons_succ]
          refine wpAnyH_take (i := 39) (oi := _) (v := .bool false) (by simp only [List.getElem?_toArray, List.getElem?_cons_succ, List.getElem?_cons_zero]; rfl) (by kernel_rfl) (by kernel_rfl) (by kernel_rfl) (by exact fun _ _ _ h => h) (Or.inl ⟨by rfl, ?_⟩) (by assumption) ?_
          · (intro w hSw; (try dsimp only at hSw); go_simp; (try simp [i3, i4]))
          try simp only [Act.put, List.setIfInBounds_toArray, List.set_cons_zero, List.set_cons_succ]
          refine wpAnyH_take (i := 40) (oi := _) (v := .bool false) (by simp only [List.getElem?_toArray, List.getElem?_cons_succ, List.getElem?_cons_zero]; rfl) (by kernel_rfl) (by kernel_rfl) (by kernel_rfl) (by exact fun _ _ _ h => h) (Or.inl ⟨by rfl, ?_⟩) (by assumption) ?_
          · (intro w hSw; (try dsimp only at hSw); go_simp; (try simp [i3, i4]))
          try simp only [Act.put, List.setIfInBounds_toArray, List.set_cons_zero, List.set_cons_succ]
          refine wpAnyH_done (by kernel_rfl) ?_ _
          go_wp2_with fail
          go_roundw
          case rel => exact ⟨k + 1, by go_num, by omega, Lib.hid (below_chain HB.out ((below_alloc _).trans (below_draws (Below.refl _ _) 1)))⟩
          case measure => simp [intOf]; omega
        · have i5 : (kd != 4) = true := by simpa using h4
          obtain ⟨h5, h6⟩ := hpt h4
          have hsl := slice_is s z p h5 h6
          have i6 : IntKind.i64.wrap ((p : Int) + z.size) = (p : Int) + z.size := by rw [IntKind.wrap_i64]; omega
          have i7 : decide ((s.size : Int) < (p : Int) + z.size) = false := decide_eq_false (by omega)
          clear hpt h4 h6
          go_upto_region 12 with fail
          refine wp_region_held_drew (S := fun w' => w'.cell? ⟨wr.heap.size, 0, none⟩ = some (.int .i64 kd) ∧ w'.cell? ⟨wr.heap.size, 1, none⟩ = some (.string z) ∧ w'.cell? ⟨wr.heap.size, 2, none⟩ = some (.int .i64 p)) (by kernel_rfl) (⟨((tok_made wr (.int .i64 kd) (.string z) (.int .i64 p)).drew.cell 0).trans rfl, ((tok_made wr (.int .i64 kd) (.string z) (.int .i64 p)).drew.cell 1).trans rfl, ((tok_made wr (.int .i64 kd) (.string z) (.int .i64 p)).drew.cell 2).trans rfl⟩) (fun hH0 => ?_)
          refine wpAnyH_take (i := 0) (oi := _) (v := ?_) (by simp only [List.getElem?_toArray, List.getElem?_cons_succ, List.getElem?_cons_zero]; rfl) (by kernel_rfl) (by kernel_rfl) (by kernel_rfl) (by exact fun _ _ _ h => h) (Or.inl ⟨by rfl, ?_⟩) (by assumption) ?_
          rotate_left
          · (intro w hSw; (try dsimp only at hSw); go_simp; try with_reducible rfl)
          try simp only [Act.put, List.setIfInBounds_toArray, List.set_cons_zero, List.set_cons_succ]
          refine wpAnyH_take (i := 1) (oi := _) (v := ?_) (by simp only [List.getElem?_toArray, List.getElem?_cons_succ, List.getElem?_cons_zero]; rfl) (by kernel_rfl) (by kernel_rfl) (by kernel_rfl) (by exact fun _ _ _ h => h) (Or.inl ⟨by rfl, ?_⟩) (by assumption) ?_
          rotate_left
          · (intro w hSw; (try dsimp only at hSw); go_simp; try with_reducible rfl)
          try simp only [Act.put, List.setIfInBounds_toArray, List.set_cons_zero, List.set_cons_succ]
          refine wpAnyH_take (i := 2) (oi := _) (v := .bool false) (by simp only [List.getElem?_toArray, List.getElem?_cons_succ, List.getElem?_cons_zero]; rfl) (by kernel_rfl) (by kernel_rfl) (by kernel_rfl) (by exact fun _ _ _ h => h) (Or.inl ⟨by rfl, ?_⟩) (by assumption) ?_
          · (intro w hSw; (try dsimp only at hSw); go_simp; (try simp [i3, i4, i5, i6, i7]))
          try simp only [Act.put, List.setIfInBounds_toArray, List.set_cons_zero, List.set_cons_succ]
          refine wpAnyH_take (i := 3) (oi := _) (v := .bool false) (by simp only [List.getElem?_toArray, List.getElem?_cons_succ, List.getElem?_cons_zero]; rfl) (by kernel_rfl) (by kernel_rfl) (by kernel_rfl) (by exact fun _ _ _ h => h) (Or.inl ⟨by rfl, ?_⟩) (by assumption) ?_
          · (intro w hSw; (try dsimp only at hSw); go_simp; (try simp [i3, i4, i5, i6, i7]))
          try simp only [Act.put, List.setIfInBounds_toArray, List.set_cons_zero, List.set_cons_succ]
          refine wpAnyH_take (i := 4) (oi := _) (v := ?_) (by simp only [List.getElem?_toArray, List.getElem?_cons_succ, List.getElem?_cons_zero]; rfl) (by kernel_rfl) (by kernel_rfl) (by kernel_rfl) (by exact fun _ _ _ h => h) (Or.inl ⟨by rfl, ?_⟩) (by assumption) ?_
          rotate_left
          · (intro w hSw; (try dsimp only at hSw); go_simp; try with_reducible rfl)
          try simp only [Act.put, List.setIfInBounds_toArray, List.set_cons_zero, List.set_cons_succ]
          refine wpAnyH_take (i := 5) (oi := _) (v := ?_) (by simp only [List.getElem?_toArray, List.getElem?_cons_succ, List.getElem?_cons_zero]; rfl) (by kernel_rfl) (by kernel_rfl) (by kernel_rfl) (by exact fun _ _ _ h => h) (Or.inl ⟨by rfl, ?_⟩) (by assumption) ?_
          rotate_left
          · (intro w hSw; (try dsimp only at hSw); go_simp; try with_reducible rfl)
          try simp only [Act.put, List.setIfInBounds_toArray, List.set_cons_zero, List.set_cons_succ]
          refine wpAnyH_take (i := 6) (oi := _) (v := ?_) (by simp only [List.getElem?_toArray, List.getElem?_cons_succ, List.getElem?_cons_zero]; rfl) (by kernel_rfl) (by kernel_rfl) (by kernel_rfl) (by exact fun _ _ _ h => h) (Or.inl ⟨by rfl, ?_⟩) (by assumption) ?_
          rotate_left
          · (intro w hSw; (try dsimp only at hSw); go_simp; try with_reducible rfl)
          try simp only [Act.put, List.setIfInBounds_toArray, List.set_cons_zero, List.set_cons_succ]
          refine wpAnyH_take (i := 7) (oi := _) (v := ?_) (by simp only [List.getElem?_toArray, List.getElem?_cons_succ, List.getElem?_cons_zero]; rfl) (by kernel_rfl) (by kernel_rfl) (by kernel_rfl) (by exact fun _ _ _ h => h) (Or.inl ⟨by rfl, ?_⟩) (by assumption) ?_
          rotate_left
          · (intro w hSw; (try dsimp only at hSw); go_simp; try with_reducible rfl)
          try simp only [Act.put, List.setIfInBounds_toArray, List.set_cons_zero, List.set_cons_succ]
          refine wpAnyH_take (i := 8) (oi := _) (v := .bool false) (by simp only [List.getElem?_toArray, List.getElem?_cons_succ, List.getElem?_cons_zero]; rfl) (by kernel_rfl) (by kernel_rfl) (by kernel_rfl) (by exact fun _ _ _ h => h) (Or.inl ⟨by rfl, ?_⟩) (by assumption) ?_
          · (intro w hSw; (try dsimp only at hSw); go_simp; (try simp [i3, i4, i5, i6, i7]))
          try simp only [Act.put, List.setIfInBounds_toArray, List.set_cons_zero, List.set_cons_succ]
          refine wpAnyH_take (i := 9) (oi := _) (v := .bool false) (by simp only [List.getElem?_toArray, List.getElem?_cons_succ, List.getElem?_cons_zero]; rfl) (by kernel_rfl) (by kernel_rfl) (by kernel_rfl) (by exact fun _ _ _ h => h) (Or.inl ⟨by rfl, ?_⟩) (by assumption) ?_
          · (intro w hSw; (try dsimp only at hSw); go_simp; (try simp [i3, i4, i5, i6, i7]))
          try simp only [Act.put, List.setIfInBounds_toArray, List.set_cons_zero, List.set_cons_succ]
          refine wpAnyH_take (i := 10) (oi := _) (v := .bool false) (by simp only [List.getElem?_toArray, List.getElem?_cons_succ, List.getElem?_cons_zero]; rfl) (by kernel_rfl) (by kernel_rfl) (by kernel_rfl) (by exact fun _ _ _ h => h) (Or.inl ⟨by rfl, ?_⟩) (by assumption) ?_
          · (intro w hSw; (try dsimp only at hSw); go_simp; (try simp [i3, i4, i5, i6, i7]))
          try simp only [Act.put, List.setIfInBounds_toArray, List.set_cons_zero, List.set_cons_succ]
          refine wpAnyH_take (i := 11) (oi := _) (v := ?_) (by simp only [List.getElem?_toArray, List.getElem?_cons_succ, List.getElem?_cons_zero]; rfl) (by kernel_rfl) (by kernel_rfl) (by kernel_rfl) (by exact fun _ _ _ h => h) (Or.inl ⟨by rfl, ?_⟩) (by assumption) ?_
          rotate_left
          · (intro w hSw; (try dsimp only at hSw); go_simp; try with_reducible rfl)
          try simp only [Act.put, List.setIfInBounds_toArray, List.set_cons_zero, List.set_cons_succ]
          refine wpAnyH_take (i := 12) (oi := _) (v := ?_) (by simp only [List.getElem?_toArray, List.getElem?_cons_succ, List.getElem?_cons_zero]; rfl) (by kernel_rfl) (by kernel_rfl) (by kernel_rfl) (by exact fun _ _ _ h => h) (Or.inl ⟨by rfl, ?_⟩) (by assumption) ?_
          rotate_left
          · (intro w hSw; (try dsimp only at hSw); go_simp; try with_reducible rfl)
          try simp only [Act.put, List.setIfInBounds_toArray, List.set_cons_zero, List.set_cons_succ]
          refine wpAnyH_take (i := 13) (oi := _) (v := .bool true) (by simp only [List.getElem?_toArray, List.getElem?_cons_succ, List.getElem?_cons_zero]; rfl) (by kernel_rfl) (by kernel_rfl) (by kernel_rfl) (by exact fun _ _ _ h => h) (Or.inl ⟨by rfl, ?_⟩) (by assumption) ?_
          · (intro w hSw; (try dsimp only at hSw); go_simp; (try simp [i5]))
          try simp only [Act.put, List.setIfInBounds_toArray, List.set_cons_zero, List.set_cons_succ]
          refine wpAnyH_take (i := 14) (oi := _) (v := .bool true) (by simp only [List.getElem?_toArray, List.getElem?_cons_succ, List.getElem?_cons_zero]; rfl) (by kernel_rfl) (by kernel_rfl) (by kernel_rfl) (by exact fun _ _ _ h => h) (Or.inl ⟨by rfl, ?_⟩) (by assumption) ?_
          · (intro w hSw; (try dsimp only at hSw); go_simp; (try simp [i5]))
          try simp only [Act.put, List.setIfInBounds_toArray, List.set_cons_zero, List.set_cons_succ]
          refine wpAnyH_take (i := 15) (oi := _) (v := ?_) (by simp only [List.getElem?_toArray, List.getElem?_cons_succ, List.getElem?_cons_zero]; rfl) (by kernel_rfl) (by kernel_rfl) (by kernel_rfl) (by exact fun _ _ _ h => h) (Or.inl ⟨by rfl, ?_⟩) (by assumption) ?_
          rotate_left
          · (intro w hSw; (try dsimp only at hSw); go_simp; try with_reducible rfl)
          try simp only [Act.put, List.setIfInBounds_toArray, List.set_cons_zero, List.set_cons_succ]
          refine wpAnyH_take (i := 16) (oi := _) (v := ?_) (by simp only [List.getElem?_toArray, List.getElem?_cons_succ, List.getElem?_cons_zero]; rfl) (by kernel_rfl) (by kernel_rfl) (by kernel_rfl) (by exact fun _ _ _ h => h) (Or.inl ⟨by rfl, ?_⟩) (by assumption) ?_
          rotate_left
          · (intro w hSw; (try dsimp only at hSw); go_simp; try with_reducible rfl)
          try simp only [Act.put, List.setIfInBounds_toArray, List.set_cons_zero, List.set_cons_succ]
          refine wpAnyH_take (i := 17) (oi := _) (v := ?_) (by simp only [List.getElem?_toArray, List.getElem?_cons_succ, List.getElem?_cons_zero]; rfl) (by kernel_rfl) (by kernel_rfl) (by kernel_rfl) (by exact fun _ _ _ h => h) (Or.inl ⟨by rfl, ?_⟩) (by assumption) ?_
          rotate_left
          · (intro w hSw; (try dsimp only at hSw); go_simp; try with_reducible rfl)
          try simp only [Act.put, List.setIfInBounds_toArray, List.set_cons_zero, List.set_cons_succ]
          refine wpAnyH_take (i := 18) (oi := _) (v := ?_) (by simp only [List.getElem?_toArray, List.getElem?_cons_succ, List.getElem?_cons_zero]; rfl) (by kernel_rfl) (by kernel_rfl) (by kernel_rfl) (by exact fun _ _ _ h => h) (Or.inl ⟨by rfl, ?_⟩) (by assumption) ?_
          rotate_left
          · (intro w hSw; (try dsimp only at hSw); go_simp; try with_reducible rfl)
          try simp only [Act.put, List.setIfInBounds_toArray, List.set_cons_zero, List.set_cons_succ]
          refine wpAnyH_take (i := 19) (oi := _) (v := ?_) (by simp only [List.getElem?_toArray, List.getElem?_cons_succ, List.getElem?_cons_zero]; rfl) (by kernel_rfl) (by kernel_rfl) (by kernel_rfl) (by exact fun _ _ _ h => h) (Or.inl ⟨by rfl, ?_⟩) (by assumption) ?_
          rotate_left
          · (intro w hSw; (try dsimp only at hSw); go_simp; try with_reducible rfl)
          try simp only [Act.put, List.setIfInBounds_toArray, List.set_cons_zero, List.set_cons_succ]
          refine wpAnyH_take (i := 20) (oi := _) (v := ?_) (by simp only [List.getElem?_toArray, List.getElem?_cons_succ, List.getElem?_cons_zero]; rfl) (by kernel_rfl) (by kernel_rfl) (by kernel_rfl) (by exact fun _ _ _ h => h) (Or.inl ⟨by rfl, ?_⟩) (by assumption) ?_
          rotate_left
          · (intro w hSw; (try dsimp only at hSw); go_simp; try with_reducible rfl)
          try simp only [Act.put, List.setIfInBounds_toArray, List.set_cons_zero, List.set_cons_succ]
          refine wpAnyH_take (i := 21) (oi := _) (v := ?_) (by simp only [List.getElem?_toArray, List.getElem?_cons_succ, List.getElem?_cons_zero]; rfl) (by kernel_rfl) (by kernel_rfl) (by kernel_rfl) (by exact fun _ _ _ h => h) (Or.inl ⟨by rfl, ?_⟩) (by assumption) ?_
          rotate_left
          · (intro w hSw; (try dsimp only at hSw); go_simp; try with_reducible rfl)
          try simp only [Act.put, List.setIfInBounds_toArray, List.set_cons_zero, List.set_cons_succ]
          refine wpAnyH_take (i := 22) (oi := _) (v := ?_) (by simp only [List.getElem?_toArray, List.getElem?_cons_succ, List.getElem?_cons_zero]; rfl) (by kernel_rfl) (by kernel_rfl) (by kernel_rfl) (by exact fun _ _ _ h => h) (Or.inl ⟨by rfl, ?_⟩) (by assumption) ?_
          rotate_left
          · (intro w hSw; (try dsimp only at hSw); go_simp; try with_reducible rfl)
          try simp only [Act.put, List.setIfInBounds_toArray, List.set_cons_zero, List.set_cons_succ]
          refine wpAnyH_take (i := 23) (oi := _) (v := .bool false) (by simp only [List.getElem?_toArray, List.getElem?_cons_succ, List.getElem?_cons_zero]; rfl) (by kernel_rfl) (by kernel_rfl) (by kernel_rfl) (by exact fun _ _ _ h => h) (Or.inl ⟨by rfl, ?_⟩) (by assumption) ?_
          · (intro w hSw; (try dsimp only at hSw); go_simp; (try simp [i3, i4, i5, i6, i7]))
          try simp only [Act.put, List.setIfInBounds_toArray, List.set_cons_zero, List.set_cons_succ]
          refine wpAnyH_take (i := 24) (oi := _) (v := .bool false) (by simp only [List.getElem?_toArray, List.getElem?_cons_succ, List.getElem?_cons_zero]; rfl) (by kernel_rfl) (by kernel_rfl) (by kernel_rfl) (by exact fun _ _ _ h => h) (Or.inl ⟨by rfl, ?_⟩) (by assumption) ?_
          · (intro w hSw; (try dsimp only at hSw); go_simp; (try simp [i3, i4, i5, i6, i7]))
          try simp only [Act.put, List.setIfInBounds_toArray, List.set_cons_zero, List.set_cons_succ]
          refine wpAnyH_take (i := 25) (oi := _) (v := ?_) (by simp only [List.getElem?_toArray, List.getElem?_cons_succ, List.getElem?_cons_zero]; rfl) (by kernel_rfl) (by kernel_rfl) (by kernel_rfl) (by exact fun _ _ _ h => h) (Or.inl ⟨by rfl, ?_⟩) (by assumption) ?_
          rotate_left
          · (intro w hSw; (try dsimp only at hSw); go_simp; try with_reducible rfl)
          try simp only [Act.put, List.setIfInBounds_toArray, List.set_cons_zero, List.set_cons_succ]
          refine wpAnyH_take (i := 26) (oi := _) (v := ?_) (by simp only [List.getElem?_toArray, List.getElem?_cons_succ, List.getElem?_cons_zero]; rfl) (by kernel_rfl) (by kernel_rfl) (by kernel_rfl) (by exact fun _ _ _ h => h) (Or.inl ⟨by rfl, ?_⟩) (by assumption) ?_
          rotate_left
          · (intro w hSw; (try dsimp only at hSw); go_simp; try with_reducible rfl)
          try simp only [Act.put, List.setIfInBounds_toArray, List.set_cons_zero, List.set_cons_succ]
          refine wpAnyH_take (i := 27) (oi := _) (v := ?_) (by simp only [List.getElem?_toArray, List.getElem?_cons_succ, List.getElem?_cons_zero]; rfl) (by kernel_rfl) (by kernel_rfl) (by kernel_rfl) (by exact fun _ _ _ h => h) (Or.inl ⟨by rfl, ?_⟩) (by assumption) ?_
          rotate_left
          · (intro w hSw; (try dsimp only at hSw); go_simp; try with_reducible rfl)
          try simp only [Act.put, List.setIfInBounds_toArray, List.set_cons_zero, List.set_cons_succ]
          refine wpAnyH_take (i := 28) (oi := _) (v := ?_) (by simp only [List.getElem?_toArray, List.getElem?_cons_succ, List.getElem?_cons_zero]; rfl) (by kernel_rfl) (by kernel_rfl) (by kernel_rfl) (by exact fun _ _ _ h => h) (Or.inl ⟨by rfl, ?_⟩) (by assumption) ?_
          rotate_left
          · (intro w hSw; (try dsimp only at hSw); go_simp; try with_reducible rfl)
          try simp only [Act.put, List.setIfInBounds_toArray, List.set_cons_zero, List.set_cons_succ]
          refine wpAnyH_take (i := 29) (oi := _) (v := ?_) (by simp only [List.getElem?_toArray, List.getElem?_cons_succ, List.getElem?_cons_zero]; rfl) (by kernel_rfl) (by kernel_rfl) (by kernel_rfl) (by exact fun _ _ _ h => h) (Or.inl ⟨by rfl, ?_⟩) (by assumption) ?_
          rotate_left
          · (intro w hSw; (try dsimp only at hSw); go_simp; try with_reducible rfl)
          try simp only [Act.put, List.setIfInBounds_toArray, List.set_cons_zero, List.set_cons_succ]
          refine wpAnyH_take (i := 30) (oi := _) (v := ?_) (by simp only [List.getElem?_toArray, List.getElem?_cons_succ, List.getElem?_cons_zero]; rfl) (by kernel_rfl) (by kernel_rfl) (by kernel_rfl) (by exact fun _ _ _ h => h) (Or.inl ⟨by rfl, ?_⟩) (by assumption) ?_
          rotate_left
          · (intro w hSw; (try dsimp only at hSw); go_simp; try with_reducible rfl)
          try simp only [Act.put, List.setIfInBounds_toArray, List.set_cons_zero, List.set_cons_succ]
          refine wpAnyH_take (i := 31) (oi := _) (v := ?_) (by simp only [List.getElem?_toArray, List.getElem?_cons_succ, List.getElem?_cons_zero]; rfl) (by kernel_rfl) (by kernel_rfl) (by kernel_rfl) (by exact fun _ _ _ h => h) (Or.inl ⟨by rfl, ?_⟩) (by assumption) ?_
          rotate_left
          · (intro w hSw; (try dsimp only at hSw); go_simp; try with_reducible rfl)
          try simp only [Act.put, List.setIfInBounds_toArray, List.set_cons_zero, List.set_cons_succ]
          refine wpAnyH_take (i := 32) (oi := _) (v := ?_) (by simp only [List.getElem?_toArray, List.getElem?_cons_succ, List.getElem?_cons_zero]; rfl) (by kernel_rfl) (by kernel_rfl) (by kernel_rfl) (by exact fun _ _ _ h => h) (Or.inl ⟨by rfl, ?_⟩) (by assumption) ?_
          rotate_left
          · (intro w hSw; (try dsimp only at hSw); go_simp; try with_reducible rfl)
          try simp only [Act.put, List.setIfInBounds_toArray, List.set_cons_zero, List.set_cons_succ]
          refine wpAnyH_take (i := 33) (oi := _) (v := ?_) (by simp only [List.getElem?_toArray, List.getElem?_cons_succ, List.getElem?_cons_zero]; rfl) (by kernel_rfl) (by kernel_rfl) (by kernel_rfl) (by exact fun _ _ _ h => h) (Or.inl ⟨by rfl, ?_⟩) (by assumption) ?_
          rotate_left
          · (intro w hSw; (try dsimp only at hSw); go_simp; try with_reducible rfl)
          try simp only [Act.put, List.setIfInBounds_toArray, List.set_cons_zero, List.set_cons_succ]
          refine wpAnyH_take (i := 34) (oi := _) (v := ?_) (by simp only [List.getElem?_toArray, List.getElem?_cons_succ, List.getElem?_cons_zero]; rfl) (by kernel_rfl) (by kernel_rfl) (by kernel_rfl) (by exact fun _ _ _ h => h) (Or.inl ⟨by rfl, ?_⟩) (by assumption) ?_
          rotate_left
          · (intro w hSw; (try dsimp only at hSw); go_simp; try with_reducible rfl)
          try simp only [Act.put, List.setIfInBounds_toArray, List.set_cons_zero, List.set_cons_succ]
          refine wpAnyH_take (i := 35) (oi := _) (v := ?_) (by simp only [List.getElem?_toArray, List.getElem?_cons_succ, List.getElem?_cons_zero]; rfl) (by kernel_rfl) (by kernel_rfl) (by kernel_rfl) (by exact fun _ _ _ h => h) (Or.inl ⟨by rfl, ?_⟩) (by assumption) ?_
          rotate_left
          · (intro w hSw; (try dsimp only at hSw); go_simp; try with_reducible rfl)
          try simp only [Act.put, List.setIfInBounds_toArray, List.set_cons_zero, List.set_cons_succ]
          refine wpAnyH_take (i := 36) (oi := _) (v := ?_) (by simp only [List.getElem?_toArray, List.getElem?_cons_succ, List.getElem?_cons_zero]; rfl) (by kernel_rfl) (by kernel_rfl) (by kernel_rfl) (by exact fun _ _ _ h => h) (Or.inl ⟨by rfl, ?_⟩) (by assumption) ?_
          rotate_left
          · (intro w hSw; (try dsimp only at hSw); go_simp; try with_reducible rfl)
          try simp only [Act.put, List.setIfInBounds_toArray, List.set_cons_zero, List.set_cons_succ]
          refine wpAnyH_take (i := 37) (oi := _) (v := .bool false) (by simp only [List.getElem?_toArray, List.getElem?_cons_succ, List.getElem?_cons_zero]; rfl) (by kernel_rfl) (by kernel_rfl) (by kernel_rfl) (by exact fun _ _ _ h => h) (Or.inl ⟨by rfl, ?_⟩) (by assumption) ?_
          · (intro w hSw; (try dsimp only at hSw); go_simp; (try simp [i3, i4, i5, i6, i7]))
          try simp only [Act.put, List.setIfInBounds_toArray, List.set_cons_zero, List.set_cons_succ]
          refine wpAnyH_take (i := 38) (oi := _) (v := .bool false) (by simp only [List.getElem?_toArray, List.getElem?_cons_succ, List.getElem?_cons_zero]; rfl) (by kernel_rfl) (by kernel_rfl) (by kernel_rfl) (by exact fun _ _ _ h => h) (Or.inl ⟨by rfl, ?_⟩) (by assumption) ?_
          · (intro w hSw; (try dsimp only at hSw); go_simp; (try simp [i3, i4, i5, i6, i7]))
          try simp only [Act.put, List.setIfInBounds_toArray, List.set_cons_zero, List.set_cons_succ]
          refine wpAnyH_take (i := 39) (oi := _) (v := .bool false) (by simp only [List.getElem?_toArray, List.getElem?_cons_succ, List.getElem?_cons_zero]; rfl) (by kernel_rfl) (by kernel_rfl) (by kernel_rfl) (by exact fun _ _ _ h => h) (Or.inl ⟨by rfl, ?_⟩) (by assumption) ?_
          · (intro w hSw; (try dsimp only at hSw); go_simp; (try simp [i3, i4, i5, i6, i7]))
          try simp only [Act.put, List.setIfInBounds_toArray, List.set_cons_zero, List.set_cons_succ]
          refine wpAnyH_take (i := 40) (oi := _) (v := .bool false) (by simp only [List.getElem?_toArray, List.getElem?_cons_succ, List.getElem?_cons_zero]; rfl) (by kernel_rfl) (by kernel_rfl) (by kernel_rfl) (by exact fun _ _ _ h => h) (Or.inl ⟨by rfl, ?_⟩) (by assumption) ?_
          · (intro w hSw; (try dsimp only at hSw); go_simp; (try simp [i3, i4, i5, i6, i7]))
          try simp only [Act.put, List.setIfInBounds_toArray, List.set_cons_zero, List.set_cons_succ]
          refine wpAnyH_done (by kernel_rfl) ?_ _
          go_wp2_with fail
          go_roundw
          case rel => exact ⟨k + 1, by go_num, by omega, Lib.hid (below_chain HB.out ((below_alloc _).trans (below_draws (Below.refl _ _) 1)))⟩
          case measure => simp [intOf]; omega
      · have hkk : n1 = k := by omega
        subst hkk
        have L4 := Lib.hid (L3.out.on HB.out)
        have K1w := Lib.hid (K1.out.below HB.out)
        have K2w := Lib.hid (K2.out.below HB.out)
        have K3w := Lib.hid (K3.out.below HB.out)
        have R2w := Lib.hid (R2.out.below HB.out R2.out.lt)
        have R3w := Lib.hid (R3.out.below HB.out R3.out.lt)
        have p2 := R2w.out.cell 0; have q2 := R2w.out.cell 1
        have p3 := R3w.out.cell 0; have q3 := R3w.out.cell 1
        simp only [List.getElem?_cons_zero, List.getElem?_cons_succ] at p2 q2 p3 q3
        rcases HRE.out with ⟨rfl, rfl, hf2, hf3⟩ | ⟨rfl, rfl, hBl, hCe, hpB⟩
        · subst hf3
          have LL := L4
          clear HRE HPL K1 K2 K3 R1 R2 R3 K1w K2w K3w R2w R3w HB L3
          go_wp2_with (go_at_call 9; refine (wakes_any _ LL.out.tab).mono ?_; rintro e wn ⟨rfl, hb⟩; replace LL := Lib.hid (LL.out.on hb); clear hb)
          go_ret
          exact ⟨rfl, LL.out.bel⟩
        · have hn : n3 = n1 + n2 := by rw [← hn3, hCe, List.length_append, List.length_map, hn1, hn2]
          have i9 : (n3 : Int) = (n1 : Int) + n2 := by omega
          have HCe := Lib.hid hCe
          have HPB := Lib.hid hpB
          have HN3 := Lib.hid hn
          clear HRE HPL K1 K2 K3 R1 R2 R3 R2w R3w L3 hCe hpB hn
          go_wp2_with fail
          clear i9
          go_loopw [13] (fun i wq => ∃ k : Nat, i = .int .i64 k ∧ k ≤ n3 ∧ Hid (Below wr.heap.size wr wq)) (fun i _ => n3 - (intOf i).toNat)
          case atStart => exact ⟨0, rfl, by omega, Lib.hid (Below.refl _ _)⟩
          case round =>
            obtain ⟨k, rfl, hk, HB2⟩ := hrel
            by_cases hkn : k < n3
            · have kr1 := K1w.out.below HB2.out
              have kr2 := K2w.out.below HB2.out
              have kr3 := K3w.out.below HB2.out
              have i2 : (k : Int) < n3 := by omega
              obtain ⟨g3, rfl, hg3, hgc3, hcell3⟩ := kr3.cells (by omega)
              by_cases hk1 : k < n1
              · obtain ⟨x, hx⟩ : ∃ x, A[k]? = some x := ⟨_, List.getElem?_eq_getElem (by omega)⟩
                have hxC : C[k]? = some x := by rw [HCe.out, List.getElem?_append_left (by omega)]; exact hx
                obtain ⟨g1, rfl, hg1, hgc1, hcell1⟩ := kr1.cells (by omega)
                obtain ⟨x0, x1, x2⟩ := hcell1 k x hx
                obtain ⟨y0, y1, y2⟩ := hcell3 k x hxC
                obtain ⟨kd, tx, p⟩ := x
                simp only at x0 x1 x2 y0 y1 y2
                obtain ⟨z, hz⟩ : ∃ z : ByteArray, z = ⟨tx.toArray⟩ := ⟨_, rfl⟩
                rw [← hz] at x1 y1
                have i3 : (k : Int) < n1 := by omega
                have i4 : IntKind.i64.wrap (k : Int) = k := by rw [IntKind.wrap_i64]; omega
                have f1 : ∀ w, (Op.equalIn 10000 39 (.agg #[.int .i64 kd, .string z, .int .i64 p]) (.agg #[.int .i64 kd, .string z, .int .i64 p])).run Tryd.prog w = .ok true w := fun w => by rw [run_tk_eq]; simp
                clear hcell1 hcell3 kr1 kr2 kr3 hx hxC hz
                go_wp2_with fail
                go_quiet (fail)
                go_wp2_with fail
                go_roundw
                case rel => exact ⟨k + 1, by go_num, by omega, Lib.hid (below_chain HB2.out ((below_alloc _).trans (below_draws (Below.refl _ _) _)))⟩
                case measure => simp [intOf]; omega
              · obtain ⟨j, hj⟩ : ∃ j, k = n1 + j := ⟨k - n1, by omega⟩
                have hn := HN3.out
                obtain ⟨x, hx⟩ : ∃ x, B[j]? = some x := ⟨_, List.getElem?_eq_getElem (by omega)⟩
                have hxC : C[k]? = some (shT (s.size + 1) x) := by rw [HCe.out, List.getElem?_append_right (by omega), List.getElem?_map, show k - A.length = j by omega, hx]; rfl
                obtain ⟨g2, rfl, hg2, hgc2, hcell2⟩ := kr2.cells (by omega)
                obtain ⟨x0, x1, x2⟩ := hcell2 j x hx
                obtain ⟨y0, y1, y2⟩ := hcell3 k _ hxC
                have hpx := HPB.out j x hx
                obtain ⟨kd, tx, p⟩ := x
                simp only [shT] at x0 x1 x2 y0 y1 y2 hpx
                obtain ⟨z, hz⟩ : ∃ z : ByteArray, z = ⟨tx.toArray⟩ := ⟨_, rfl⟩
                rw [← hz] at x1 y1
                have i3 : ¬ (k : Int) < n1 := by omega
                have i4 : (k : Int) - n1 = j := by omega
                have i5 : (j : Int) < n2 := by omega
                have i6 : ((p + (s.size + 1) : Nat) : Int) = (p : Int) + ((s.size : Int) + 1) := by omega
                rw [i6] at y2
                have f1 : ∀ w, (Op.equalIn 10000 39 (.agg #[.int .i64 kd, .string z, .int .i64 ((p : Int) + ((s.size : Int) + 1))]) (.agg #[.int .i64 kd, .string z, .int .i64 ((p : Int) + ((s.size : Int) + 1))])).run Tryd.prog w = .ok true w := fun w => by rw [run_tk_eq]; simp
                have HJ := Lib.hid hj
                clear hcell2 hcell3 kr1 kr2 kr3 hx hxC hz i6 hk1 hj hn
                go_wp2_with fail
                go_quiet (fail)
                go_wp2_with fail
                go_roundw
                case rel => exact ⟨k + 1, by go_num, by omega, Lib.hid (below_chain HB2.out ((below_alloc _).trans (below_draws (Below.refl _ _) _)))⟩
                case measure => simp [intOf]; omega
            · have hkk : n3 = k := by omega
              subst hkk
              have LL := Lib.hid (L4.out.on HB2.out)
              go_wp2_with (go_at_call 9; refine (wakes_any _ LL.out.tab).mono ?_; rintro e wn ⟨rfl, hb⟩; replace LL := Lib.hid (LL.out.on hb); clear hb)
              go_ret
              exact ⟨rfl, LL.out.bel⟩

theorem contract (H : Type) (enc : TypeId × Value → H) (W : World) (base : Nat) (args : Array Value) (ds gs : List (DataW H)) (before : List MemPlace)
    (hval0 : ∀ (j : Nat) t v, Tryd.f5.params[j]? = some t → args[j]? = some v → Value.okWide Tryd.prog W .any base t v)
    (hW : DataW.Whole enc Tryd.prog Tryd.f5.params.toList Rows.lexRowsSpec.vars false W args.toList ds gs before)
    (T : LxTab W)
    (hz : (DataW.weightsEach Tryd.prog (Tryd.f5.params.toList ++ Rows.lexRowsSpec.plain.varTypes Tryd.prog) (ds ++ gs)).all (· ≤ reachBytes) = true) :
    Calls Tryd.prog 5 args W fun e W' => ∃ v, e = .returned v ∧ Rows.lexRowsSpec.post enc Tryd.prog Tryd.f5 false true false false W args v W' := by
  have hW' := hW
  have hval := hval0
  obtain ⟨p, q, hA0, hV, rfl, hfz, hnd⟩ := hW
  have hA : DataW.TrodAll enc Tryd.prog W 0 (fun _ => true) true Tryd.f5.params.toList args.toList ds p := hA0
  rw [Tryd.params5] at hA hval
  obtain ⟨rfl, rfl⟩ := trodVars_none hV
  have wb : ∀ (j : Nat) (t : TypeId) (d : DataW H), Tryd.f5.params[j]? = some t → ds[j]? = some d → WB Tryd.prog t d := fun j t d ht hd => wb_of hz (by simpa using ht) hd
  rw [Tryd.params5] at wb
  obtain ⟨v0, vs0, d0, ds0, p0, q0, hargs, rfl, rfl, h0, r0⟩ := trodAll_cons hA
  obtain ⟨v1, vs1, d1, ds1, p1, q1, rfl, rfl, rfl, h1, r1⟩ := trodAll_cons r0
  obtain ⟨rfl, rfl, rfl⟩ := trodAll_nil r1
  obtain rfl : args = #[v0, v1] := by cases args; simp_all
  obtain ⟨s0, rfl, rfl, rfl, w0⟩ := ChangeMaps.open_string Tryd.underlying9 (hval 0 9 v0 rfl rfl) h0
  obtain ⟨s1, rfl, rfl, rfl, w1⟩ := ChangeMaps.open_string Tryd.underlying9 (hval 1 9 v1 rfl rfl) h1
  refine (walk s0 s1 (str_reach (wb 0 _ _ rfl rfl)) (str_reach (wb 1 _ _ rfl rfl)) W T).mono fun e W' ⟨he, hb⟩ => ?_
  subst he
  exact ⟨_, rfl, law_post laidOut (by kernel_rfl) rfl (by kernel_rfl) Tryd.underlying4 hW' rfl rfl rfl hb⟩

theorem door_met (os : Os) (args : Array Value) : laidMetH Tryd.prog Rows.lexRowsRow.laid ((World.doorLaid Tryd.prog 300 os).forCall (fun _ _ => 0) ⟨#[], args, []⟩).memory :=
  laidMetH_of_parts3 (fuel := 8) (laidMet_of_run' 8 (by kernel_rfl) (by kernel_rfl)) (by kernel_rfl) (by kernel_rfl)

set_option maxRecDepth 100000 in
theorem lifted (os : Os) (started : os.Started) (H : Type) (enc : TypeId × Value → H) :
    ReturnsInHanded {} Tryd.checked os 5 .any (fun w args => (Rows.lexRowsSpec.pre enc Tryd.prog Tryd.f5 [] false w args ∧ laidMetH Tryd.prog Rows.lexRowsRow.laid w) ∧ sizedMet enc Tryd.prog Tryd.f5 (OpenSpec.ofChange Rows.lexRowsSpec) false w args)
      (Rows.lexRowsSpec.post enc Tryd.prog Tryd.f5 false true false false) := by
  refine returnsInHanded_of_change_and (C := Tryd.checked) (X := fun w _ => laidMetH Tryd.prog Rows.lexRowsRow.laid w) (fun _ _ _ hh h => h.of_heap hh) own started (by kernel_rfl) Tryd.func5
    (ChangeSpec.witness_shaped (enc := enc) (C := Tryd.checked) (os := os) (X := fun w _ => laidMetH Tryd.prog Rows.lexRowsRow.laid w) false (World.doorLaid Tryd.prog 300 os) #[.string ⟨#[]⟩, .string ⟨#[]⟩] 8 rfl (World.shaped_of_RefB (by kernel_rfl) (by kernel_rfl)) (by kernel_rfl) (by kernel_rfl) (by kernel_rfl) (door_met os _)) ?_
  intro W base args ds gs before hval hW _ hz hL _
  exact contract H enc W base args ds gs before hval hW (lxtab_of hL) hz

theorem over : Rows.lexRowsRow.holds Tryd.pinned (OpenSpec.ofChange Rows.lexRowsSpec) :=
  OpenClaim.holds_of_wide 5 Tryd.f5 rfl rfl rfl rfl rfl rfl rfl ⟨rfl, rfl, rfl, rfl, rfl⟩ rfl rfl rfl rfl rfl (by kernel_rfl) Tryd.func5 (by kernel_rfl)
    (of_decide_eq_true (by kernel_rfl)) (by unfold Func.isWrapper; first | (rw [if_pos (by decide +kernel)]; kernel_rfl) | (rw [if_neg (by decide +kernel)]; exact ⟨rfl, rfl⟩))
    (fun os started H enc _ => lifted os started H enc)

theorem proved : Rows.LexRowsCardSaid :=
  Claim7.holds_tied_plain_at .later [] [.data, .data, .data, .sentinel, .sentinel, .data, .data] true _ true
    over (fun _ h => by cases h) (by kernel_rfl) (fun _ h => by cases h) lexRows_row_tie rfl ⟨rfl, rfl⟩ (by kernel_rfl) rfl
    (fun f fn hf hfn => by
      obtain rfl : f = 5 := Option.some.inj ((show Tryd.prog.funcNamed "stockpot/stockpotlaw14.LexRows" = some 5 by kernel_rfl).symm.trans hf) |>.symm
      obtain rfl : fn = Tryd.f5 := (Option.some.inj (Tryd.func5.symm.trans hfn)).symm
      exact ⟨by kernel_rfl, fun j t ht => by
        have hall : (Tryd.f5.params.toList.all fun u => !Tryd.prog.wantsStandIn u) = true := by kernel_rfl
        exact (show Tryd.prog.wantsStandIn t = false by simpa using List.all_eq_true.1 hall t (by simpa using Array.mem_of_getElem? ht))⟩)
    (by kernel_rfl)
#print axioms proved
end Go.Proofs.YtlidegofnkmenaaDoor.lexRows
