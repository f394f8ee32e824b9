/-
  Package lex: the token that is a sign; a text's bytes.
  Conditions: the tables of package lex and the library's variables read as the program's text lays them; texts of no more than 100,000 bytes.
-/
import Derived.Test.YtlidegofnkmenaaDoorLxC
namespace Go.Proofs.YtlidegofnkmenaaDoor
open Go.ChangeShapes Go.WideShapes Go.ChangeAt Go.RowKit
set_option linter.unusedVariables false
set_option linter.unusedSimpArgs false
set_option maxRecDepth 100000
set_option maxHeartbeats 400000

/-! ## Signs: the first of the table that the bytes begin with -/
def sgF : List (List UInt8) → List UInt8 → Option (List UInt8)
  | [], _ => none
  | g :: r, l => if Lib.hasPrefix l g = true then some g else sgF r l
theorem sgF_at {k : Nat} (hk : k < 19) (l : List UInt8) : sgF (sgL.drop k) l = if Lib.hasPrefix l (sgL.getD k []) = true then some (sgL.getD k []) else sgF (sgL.drop (k + 1)) l := by
  rw [List.drop_eq_getElem_cons (by rw [sg_len]; exact hk), List.getD_eq_getElem?_getD, List.getElem?_eq_getElem (by rw [sg_len]; exact hk)]
  rfl
theorem hp1 (a : UInt8) (l : List UInt8) (h0 : l.length ≠ 0) : Lib.hasPrefix l [a] = decide (byN l 0 = a.toNat) := by
  match l with
  | [] => exact absurd rfl h0
  | c :: r =>
    have e : byN (c :: r) 0 = c.toNat := rfl
    rw [e]
    unfold Lib.hasPrefix
    simp only [List.isPrefixOf, Bool.and_true]
    by_cases h : a = c
    · subst h; simp
    · rw [decide_eq_false (fun e => h (UInt8.toNat_inj.1 e.symm))]; simpa using h
theorem hp2 (a b : UInt8) (l : List UInt8) (hb : b.toNat ≠ 0) (h0 : l.length ≠ 0) : Lib.hasPrefix l [a, b] = (decide (byN l 0 = a.toNat) && decide (byN l 1 = b.toNat)) := by
  match l with
  | [] => exact absurd rfl h0
  | [c] =>
    have e : byN [c] 1 = 0 := rfl
    rw [e, decide_eq_false (p := (0 : Nat) = b.toNat) (fun e => hb e.symm)]
    unfold Lib.hasPrefix
    simp [List.isPrefixOf]
  | c :: d :: r =>
    have e : byN (c :: d :: r) 0 = c.toNat := rfl
    have e' : byN (c :: d :: r) 1 = d.toNat := rfl
    rw [e, e']
    unfold Lib.hasPrefix
    simp only [List.isPrefixOf, Bool.and_true]
    congr 1
    · by_cases h : a = c
      · subst h; simp
      · rw [decide_eq_false (fun e => h (UInt8.toNat_inj.1 e.symm))]; simpa using h
    · by_cases h : b = d
      · subst h; simp
      · rw [decide_eq_false (fun e => h (UInt8.toNat_inj.1 e.symm))]; simpa using h
theorem sgF_is (l : List UInt8) (h0 : l.length ≠ 0) : sgF sgL l = if sgP l = 0 then none else some (l.take (sgP l)) := by
  have h1 : ∀ a : UInt8, byN l 0 = a.toNat → l.take 1 = [a] := fun a h => by
    match l, h0 with
    | c :: r, _ =>
      have : c.toNat = a.toNat := h
      rw [UInt8.toNat_inj.1 this]; simp
  have h2 : ∀ a b : UInt8, b.toNat ≠ 0 → byN l 0 = a.toNat → byN l 1 = b.toNat → l.take 2 = [a, b] := fun a b hb h k => by
    match l, h0 with
    | [c], _ => exact absurd (show (0 : Nat) = b.toNat from k).symm hb
    | c :: d :: r, _ =>
      have e1 : c.toNat = a.toNat := h
      have e2 : d.toNat = b.toNat := k
      rw [UInt8.toNat_inj.1 e1, UInt8.toNat_inj.1 e2]; simp
  unfold sgL sgF sgP sgN
  simp only [sgF, hp1 _ _ h0, hp2 _ _ _ (show (62 : UInt8).toNat ≠ 0 by decide) h0, hp2 _ _ _ (show (61 : UInt8).toNat ≠ 0 by decide) h0, hp2 _ _ _ (show (58 : UInt8).toNat ≠ 0 by decide) h0]
  generalize hc : byN l 0 = c at *
  generalize hd : byN l 1 = d at *
  simp only [Bool.and_eq_true, decide_eq_true_eq, UInt8.toNat_ofNat, Nat.reduceMod, Nat.reducePow]
  by_cases k1 : c = 45
  · subst k1
    by_cases k2 : d = 62
    · subst k2; simpa using (h2 45 62 (by decide) rfl rfl).symm
    · simpa [k2] using (h1 45 rfl).symm
  · by_cases k1' : c = 58
    · subst k1'
      by_cases k2 : d = 61
      · subst k2; simpa using (h2 58 61 (by decide) rfl rfl).symm
      · by_cases k3 : d = 58
        · subst k3; simpa using (h2 58 58 (by decide) rfl rfl).symm
        · simp [k2, k3]
    · by_cases k : c = 40 ∨ c = 41 ∨ c = 91 ∨ c = 93 ∨ c = 44 ∨ c = 59 ∨ c = 124 ∨ c = 33 ∨ c = 61 ∨ c = 43 ∨ c = 42 ∨ c = 47 ∨ c = 37 ∨ c = 94 ∨ c = 60
      · rcases k with rfl | rfl | rfl | rfl | rfl | rfl | rfl | rfl | rfl | rfl | rfl | rfl | rfl | rfl | rfl
        · simpa using (h1 40 rfl).symm
        · simpa using (h1 41 rfl).symm
        · simpa using (h1 91 rfl).symm
        · simpa using (h1 93 rfl).symm
        · simpa using (h1 44 rfl).symm
        · simpa using (h1 59 rfl).symm
        · simpa using (h1 124 rfl).symm
        · simpa using (h1 33 rfl).symm
        · simpa using (h1 61 rfl).symm
        · simpa using (h1 43 rfl).symm
        · simpa using (h1 42 rfl).symm
        · simpa using (h1 47 rfl).symm
        · simpa using (h1 37 rfl).symm
        · simpa using (h1 94 rfl).symm
        · simpa using (h1 60 rfl).symm
      · simp only [not_or] at k
        simp [k1, k1', k]

theorem prefix_any (s p : ByteArray) (w : World) : Calls Tryd.prog 44 #[.string s, .string p] w fun e w' => e = .returned (.bool (Lib.hasPrefix (Ls s) (Ls p))) ∧ w = w' :=
  (Any.strings_HasPrefix Tryd.laysNm99 s p w).mono fun e w' ⟨he, hw⟩ => ⟨he, hw.symm⟩
theorem ls_mk (l : List UInt8) : Ls (⟨l.toArray⟩ : ByteArray) = l := by simp [Ls]
theorem size_mk (l : List UInt8) : (⟨l.toArray⟩ : ByteArray).size = l.length := by rw [← ls_len, ls_mk]

theorem row2_set {w : World} {n : Nat} {T : TypeId} {x y z : Value} (h : rowAt w n T [x, y, z]) (a b : Value) : rowAt ((w.setCell ⟨n, 0, none⟩ a).setCell ⟨n, 1, none⟩ b) n T [a, b, z] := (h.set 0 a).set 1 b

theorem firstSign_any (s : ByteArray) (h0 : 0 < s.size) (hl : ltN (byN (Ls s) 0) = false) (hd : dgN (byN (Ls s) 0) = false) (hq : byN (Ls s) 0 ≠ 34) (w : World) (T : LxTab w) :
    Calls Tryd.prog 38 #[.string s] w fun e w' => FtRet (firstP (Ls s)) e ∧ Below w.heap.size w w' := by
  have h0' : (Ls s).length ≠ 0 := by rw [ls_len]; omega
  have hF := firstP_sign h0' hl hd hq
  have hG := sgF_is (Ls s) h0'
  have HS : Hid (∀ g, sgF sgL (Ls s) = some g → firstP (Ls s) = some (6, g, g.length)) := Lib.hid fun g hg => by
    rw [hG] at hg
    by_cases c : sgP (Ls s) = 0
    · rw [if_pos c] at hg; cases hg
    · rw [if_neg c] at hg
      cases hg
      rw [hF, if_neg c, List.length_take, Nat.min_eq_left (sgP_le _ h0')]
  have HN : Hid (sgF sgL (Ls s) = none → firstP (Ls s) = none) := Lib.hid fun hg => by
    rw [hG] at hg
    by_cases c : sgP (Ls s) = 0
    · rw [hF, if_pos c]
    · rw [if_neg c] at hg; cases hg
  have HL : Hid (∀ j v, (strA sgL)[j]? = some v → (w.alloc (.cells #[.int .i64 0, .string ⟨#[]⟩, .int .i64 0] 39)).cell? ⟨0, j, none⟩ = some v) :=
    Lib.hid (strA_cells (l := sgL) fun k hk => (T.below (below_alloc _)).sg k (by rw [sg_len] at hk; exact hk))
  clear hF hG hl hd hq h0' T
  have IX := idx_sg (w.alloc (.cells #[.int .i64 0, .string ⟨#[]⟩, .int .i64 0] 39))
  obtain ⟨A, hA⟩ : ∃ A, A = strA sgL := ⟨_, rfl⟩
  have hsz : A.size = 19 := by rw [hA]; rfl
  rw [← hA] at HL IX
  clear hA
  go_enter Tryd.func38, Tryd.ntmps38
  go_upto_region 1 with fail
  refine wp_region_lit ?_
  refine wpList_load_cells (by rfl) 60 _ (by rfl) 0 (by rfl) A _ HL.out Tryd.underlying60 rfl (by rw [hsz]; kernel_rfl) ?_
  simp only [Act.put, List.setIfInBounds_toArray, List.set_cons_zero, List.set_cons_succ]
  go_wp2_with fail
  go_loop [7] (fun v => ∃ k : Nat, v = .int .i64 k ∧ k ≤ 19 ∧ Hid (sgF sgL (Ls s) = sgF (sgL.drop k) (Ls s))) (fun v => 19 - (intOf v).toNat)
  case atStart => exact ⟨0, rfl, by omega, Lib.hid rfl⟩
  case round =>
    obtain ⟨k, rfl, hk, HK⟩ := hrel
    by_cases hlt : k < 19
    · have hi := IX k hlt
      have i1 : (k : Int) < 19 := by omega
      have hstep := sgF_at hlt (Ls s)
      have HP := fun w => prefix_any s ⟨(sgL.getD k []).toArray⟩ w
      rw [ls_mk] at HP
      have hgl : (sgL.getD k []).length ≤ 2 := by
        have : ∀ j : Fin 19, (sgL.getD j.val []).length ≤ 2 := by decide
        exact this ⟨k, hlt⟩
      cases hb : Lib.hasPrefix (Ls s) (sgL.getD k [])
      · rw [hb] at HP
        rw [hb, if_neg (by decide)] at hstep
        have HN2 := Lib.hid (HK.out.trans hstep)
        obtain ⟨x, hx⟩ : ∃ x : ByteArray, x = ⟨(sgL.getD k []).toArray⟩ := ⟨_, rfl⟩
        rw [← hx] at hi HP
        clear IX hstep HK hb hx hgl
        go_wp2_with (go_at_call 44; refine (HP _).mono ?_; rintro e w' ⟨rfl, rfl⟩)
        exact ⟨⟨k + 1, rfl, by omega, HN2⟩, by simp [intOf]; omega⟩
      · rw [hb] at HP
        rw [hb, if_pos rfl] at hstep
        have HF := Lib.hid (HS.out _ (HK.out.trans hstep))
        obtain ⟨x, hx⟩ : ∃ x : ByteArray, x = ⟨(sgL.getD k []).toArray⟩ := ⟨_, rfl⟩
        have hxs : x.size = (sgL.getD k []).length := by rw [hx, size_mk]
        rw [← hx] at hi HP
        rw [← hxs] at HF hgl
        have HX := Lib.hid hx
        clear IX hstep HK hb hx hxs
        go_wp2_with (go_at_call 44; refine (HP _).mono ?_; rintro e w' ⟨rfl, rfl⟩)
        refine bodyPost_ret (results_cell_tmp Tryd.results38 (by rfl) (by rfl) (tok_made w _ _ _) Tryd.underlying39 rfl info_tok) rfl ⟨ft_some HF.out HX.out, ?_⟩
        exact below_alloc _
    · obtain rfl : k = 19 := by omega
      have HF := Lib.hid (HN.out (HK.out.trans rfl))
      clear IX HK
      go_wp2_with fail
      refine bodyPost_ret (results_cell_tmp Tryd.results38 (by rfl) (by rfl) (tok_made w _ _ _) Tryd.underlying39 rfl info_tok) rfl ⟨ft_none HF.out, ?_⟩
      exact below_alloc _
end Go.Proofs.YtlidegofnkmenaaDoor
