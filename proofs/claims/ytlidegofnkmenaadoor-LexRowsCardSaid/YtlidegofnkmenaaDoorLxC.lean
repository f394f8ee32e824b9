/-
  Package lex: the token that is a word, an int, a sign.
  Conditions: the tables of package lex and the library's variables read as the program's text lays them; texts of no more than 100,000 bytes.
-/
import Derived.Test.YtlidegofnkmenaaDoorLxB
import Derived.Test.YtlidegofnkmenaaDoorMem
import Derived.RegionTactic
import Derived.BigRegion
import Derived.StillTailTactics
namespace Go.Proofs.YtlidegofnkmenaaDoor
open Go.ChangeShapes Go.WideShapes Go.ChangeAt Go.RowKit
set_option linter.unusedVariables false
set_option linter.unusedSimpArgs false
set_option maxRecDepth 100000
set_option maxHeartbeats 400000

theorem below_alloc {w : World} (o : Obj) : Below w.heap.size w (w.alloc o) := (Below.refl _ _).alloc (Nat.le_refl _) o
theorem ls_sub (s : ByteArray) {k : Nat} (hk : k ≤ s.size) : (s.extract 0 k).size = k := by rw [← ls_len, ls_to, List.length_take, ls_len]; omega

/-- What the token functions hand back. -/
def ftV : Option (Int × List UInt8 × Nat) → Value
  | none => .tuple #[.agg #[.int .i64 0, .string ⟨#[]⟩, .int .i64 0], .int .i64 0]
  | some (k, t, n) => .tuple #[.agg #[.int .i64 k, .string ⟨t.toArray⟩, .int .i64 0], .int .i64 n]
def FtRet (x : Option (Int × List UInt8 × Nat)) (e : Ending) : Prop := e = .returned (ftV x)

theorem ft_some {x : Option (Int × List UInt8 × Nat)} {k : Int} {t : List UInt8} {n : Nat} {b : ByteArray} (h : x = some (k, t, n)) (hb : b = ⟨t.toArray⟩) : FtRet x (.returned (.tuple #[.agg #[.int .i64 k, .string b, .int .i64 0], .int .i64 n])) := by
  subst h; subst hb; rfl
theorem ft_none {x : Option (Int × List UInt8 × Nat)} (h : x = none) : FtRet x (.returned (.tuple #[.agg #[.int .i64 0, .string ⟨#[]⟩, .int .i64 0], .int .i64 0])) := by
  subst h; rfl
theorem below_set {w W : World} (h : Below w.heap.size w W) {p : Addr} (hp : w.heap.size ≤ p.block) (v : Value) : Below w.heap.size w (W.setCell p v) := h.setCell hp v

theorem results_cell_tmp {P : Program} {fn : Func} {p q : Tmp} {ty : TypeId} (h : fn.results = #[.cell p ty, .tmp q]) {tmps : Array Value} {w : World} {g : Nat} {t : TypeId} {cs : List Value} {x : Value} {d : TypeDesc}
    (hp : tmps.getD p undef = .pointer (some ⟨g, 0, none⟩)) (hq : tmps.getD q undef = x) (hr : rowAt w g t cs)
    (hu : P.underlying ty = some d) (hd : (match d with | .struct _ | .array _ _ => true | _ => false) = true) (hi : (P.info? ty).map (·.size) = some cs.length) :
    (results fn tmps).run P w = .ok (.tuple #[.agg cs.toArray, x]) w := by
  have hp' : tmps[p]?.getD undef = .pointer (some ⟨g, 0, none⟩) := by simpa using hp
  have hq' : tmps[q]?.getD undef = x := by simpa using hq
  simp [results, h, hp', hq', asAddr, run_loadVar_cells w g ty cs.toArray d (fun j v hv => by rw [hr.cell]; simpa using hv) hu hd (by simpa using hi)]
theorem row3_set {w : World} {n : Nat} {T : TypeId} {x y z : Value} (h : rowAt w n T [x, y, z]) (a b c : Value) : rowAt (((w.setCell ⟨n, 0, none⟩ a).setCell ⟨n, 1, none⟩ b).setCell ⟨n, 2, none⟩ c) n T [a, b, c] := ((h.set 0 a).set 1 b).set 2 c
theorem info_tok : (Tryd.prog.info? 39).map (·.size) = some 3 := by kernel_rfl
theorem tok_made (w : World) (x y z : Value) : rowAt (w.alloc (.cells #[x, y, z] 39)) w.heap.size 39 [x, y, z] := rowAt.made w 39 [x, y, z]

theorem wordKind_to (s : ByteArray) (k : Nat) (h0 : 0 < k) (hk : k ≤ s.size) (w : World) (T : LxTab w) :
    Calls Tryd.prog 41 #[.string (s.extract 0 k)] w fun e w' => e = .returned (.int .i64 (kwP ((Ls s).take k))) ∧ w = w' := by
  have := wordKind_any (s.extract 0 k) (by rw [ls_sub s hk]; exact h0) w T
  rwa [ls_to] at this

theorem firstWord_any (s : ByteArray) (h0 : 0 < s.size) (hs : s.size ≤ 100000) (hl : ltN (byN (Ls s) 0) = true) (w : World) (T : LxTab w) :
    Calls Tryd.prog 34 #[.string s] w fun e w' => FtRet (firstP (Ls s)) e ∧ Below w.heap.size w w' := by
  obtain ⟨n, hn⟩ : ∃ n, lenW wdB (Ls s) = n := ⟨_, rfl⟩
  have hnl : n ≤ s.size := by rw [← hn, ← ls_len]; exact lenW_le _ _
  have h0' : (Ls s).length ≠ 0 := by rw [ls_len]; omega
  have hpos : 0 < n := by rw [← hn]; exact lenW_pos h0' (by unfold wdB wdN; unfold byN at hl; rw [hl]; rfl)
  have HI : Hid (∀ j, j < n → wdN (byN (Ls s) j) = true) := Lib.hid fun j hj => by
    have hj' : j < (Ls s).length := by rw [ls_len]; omega
    have := lenW_in wdB (Ls s) j (Ls s)[j] (by omega) (List.getElem?_eq_getElem hj')
    unfold byN; rw [List.getD_eq_getElem?_getD, List.getElem?_eq_getElem hj']; exact this
  have HO : Hid (n < s.size → wdN (byN (Ls s) n) = false) := Lib.hid fun h => by
    have hj' : n < (Ls s).length := by rw [ls_len]; omega
    have := lenW_at wdB (Ls s) (Ls s)[n] (by rw [hn]; exact List.getElem?_eq_getElem hj')
    unfold byN; rw [List.getD_eq_getElem?_getD, List.getElem?_eq_getElem hj']; exact this
  have hF : firstP (Ls s) = if n ≤ 12 then some (kwP ((Ls s).take n), (Ls s).take n, n) else none := by
    by_cases c : n ≤ 12
    · rw [if_pos c, ← hn]; exact firstP_word h0' hl (by omega)
    · rw [if_neg c]; exact firstP_long hl (by omega)
  have HF := Lib.hid hF
  have HT := Lib.hid T
  clear hF hl hn h0' T
  go_enter Tryd.func34, Tryd.ntmps34
  go_wp2_with fail
  go_loop [4] (fun v => ∃ k : Nat, v = .int .i64 k ∧ k ≤ n) (fun v => n - (intOf v).toNat)
  case atStart => exact ⟨0, rfl, by omega⟩
  case round =>
    obtain ⟨k, rfl, hk⟩ := hrel
    by_cases hlt : k < n
    · have hks : k < s.size := by omega
      have i1 : (k : Int) < s.size := by omega
      obtain ⟨c, hc⟩ : ∃ c, byN (Ls s) k = c := ⟨_, rfl⟩
      have hg : s[k].toNat = c := by rw [get_byN s k hks, hc]
      have hw : wdN c = true := by rw [← hc]; exact HI.out k hlt
      have hab : ltN c = true ∨ ltN c = false ∧ dgN c = true := by
        unfold wdN at hw
        cases h : ltN c
        · rw [h] at hw; exact .inr ⟨rfl, hw⟩
        · exact .inl rfl
      have HAB := Lib.hid hab
      clear hc hw hab HI HO HF HT
      rcases HAB.out with h1 | ⟨h1, h2⟩
      · have H1 := Lib.hid h1
        clear HAB h1
        go_wp2_with (go_at_call 33; refine (isLetter_is H1.out _).mono ?_; rintro e w' ⟨rfl, rfl⟩)
        exact ⟨⟨k + 1, rfl, by omega⟩, by simp [intOf]; omega⟩
      · have H1 := Lib.hid h1
        have H2 := Lib.hid h2
        clear HAB h1 h2
        go_wp2_with (first | (go_at_call 33; refine (isLetter_is H1.out _).mono ?_; rintro e w' ⟨rfl, rfl⟩) | (go_at_call 35; refine (isDigit_is H2.out _).mono ?_; rintro e w' ⟨rfl, rfl⟩))
        exact ⟨⟨k + 1, rfl, by omega⟩, by simp [intOf]; omega⟩
    · obtain rfl : k = n := by omega
      have i2 : (k : Int) ≤ s.size := by omega
      by_cases hc12 : k ≤ 12
      · have HF2 : Hid (firstP (Ls s) = some (kwP ((Ls s).take k), (Ls s).take k, k)) := Lib.hid (by rw [HF.out, if_pos hc12])
        have HK := fun w T => wordKind_to s k hpos hnl w T
        have i3 : (k : Int) ≤ 12 := by omega
        have hst := str_to s k
        have HST := Lib.hid hst
        clear hst HI HF
        by_cases hks : k < s.size
        · have i1 : (k : Int) < s.size := by omega
          obtain ⟨c, hc⟩ : ∃ c, byN (Ls s) k = c := ⟨_, rfl⟩
          have hg : s[k].toNat = c := by rw [get_byN s k hks, hc]
          have hw : wdN c = false := by rw [← hc]; exact HO.out hks
          have H1 : Hid (ltN c = false) := Lib.hid (by unfold wdN at hw; simp at hw; exact hw.1)
          have H2 : Hid (dgN c = false) := Lib.hid (by unfold wdN at hw; simp at hw; exact hw.2)
          clear hc hw HO
          go_upto_region 6 with (first | (go_at_call 33; refine (isLetter_is H1.out _).mono ?_; rintro e w' ⟨rfl, rfl⟩) | (go_at_call 35; refine (isDigit_is H2.out _).mono ?_; rintro e w' ⟨rfl, rfl⟩))
          go_region_with (go_at_call 41; refine (HK _ (HT.out.below ((below_alloc _).trans (below_draws (Below.refl _ _) 1)))).mono ?_; rintro e w' ⟨rfl, rfl⟩)
          go_wp2_with fail
          refine bodyPost_ret (results_cell_tmp Tryd.results34 (by rfl) (by rfl) (row3_set (tok_made w _ _ _) _ _ _) Tryd.underlying39 rfl info_tok) rfl ⟨ft_some HF2.out HST.out, ?_⟩
          exact below_set (below_set (below_set (below_draws (below_alloc _) 1) (Nat.le_refl _) _) (Nat.le_refl _) _) (Nat.le_refl _) _
        · have i1 : (s.size : Int) ≤ k := by omega
          clear HO
          go_upto_region 6 with fail
          go_region_with (go_at_call 41; refine (HK _ (HT.out.below ((below_alloc _).trans (below_draws (Below.refl _ _) 1)))).mono ?_; rintro e w' ⟨rfl, rfl⟩)
          go_wp2_with fail
          refine bodyPost_ret (results_cell_tmp Tryd.results34 (by rfl) (by rfl) (row3_set (tok_made w _ _ _) _ _ _) Tryd.underlying39 rfl info_tok) rfl ⟨ft_some HF2.out HST.out, ?_⟩
          exact below_set (below_set (below_set (below_draws (below_alloc _) 1) (Nat.le_refl _) _) (Nat.le_refl _) _) (Nat.le_refl _) _
      · have HF2 : Hid (firstP (Ls s) = none) := Lib.hid (by rw [HF.out, if_neg hc12])
        have i3 : (12 : Int) < k := by omega
        clear HI HF hc12 HT
        by_cases hks : k < s.size
        · have i1 : (k : Int) < s.size := by omega
          obtain ⟨c, hc⟩ : ∃ c, byN (Ls s) k = c := ⟨_, rfl⟩
          have hg : s[k].toNat = c := by rw [get_byN s k hks, hc]
          have hw : wdN c = false := by rw [← hc]; exact HO.out hks
          have H1 : Hid (ltN c = false) := Lib.hid (by unfold wdN at hw; simp at hw; exact hw.1)
          have H2 : Hid (dgN c = false) := Lib.hid (by unfold wdN at hw; simp at hw; exact hw.2)
          clear hc hw HO
          go_wp2_with (first | (go_at_call 33; refine (isLetter_is H1.out _).mono ?_; rintro e w' ⟨rfl, rfl⟩) | (go_at_call 35; refine (isDigit_is H2.out _).mono ?_; rintro e w' ⟨rfl, rfl⟩))
          refine bodyPost_ret (results_cell_tmp Tryd.results34 (by rfl) (by rfl) (tok_made w _ _ _) Tryd.underlying39 rfl info_tok) rfl ⟨ft_none HF2.out, ?_⟩
          exact below_alloc _
        · have i1 : (s.size : Int) ≤ k := by omega
          clear HO
          go_wp2_with fail
          refine bodyPost_ret (results_cell_tmp Tryd.results34 (by rfl) (by rfl) (tok_made w _ _ _) Tryd.underlying39 rfl info_tok) rfl ⟨ft_none HF2.out, ?_⟩
          exact below_alloc _

theorem parse_to (s : ByteArray) (k : Nat) (w : World) (T : LxTab w) :
    Calls Tryd.prog 42 #[.string (s.extract 0 k)] w fun e w' => PaRet (paV ((Ls s).take k)) (paO ((Ls s).take k)) e ∧ Below w.heap.size w w' := by
  have := parse_any (s.extract 0 k) w T
  rwa [show (s.extract 0 k).data.toList = (Ls s).take k from ls_to s k] at this

end Go.Proofs.YtlidegofnkmenaaDoor
