/-
  Package lex: a text's bytes; the token that is a text.
  Conditions: texts of no more than 100,000 bytes.
-/
import Derived.Test.YtlidegofnkmenaaDoorLxC
import Derived.Test.YtlidegofnkmenaaDoorApp
import Derived.Lib.BufferRead
import Derived.LoopTactic
namespace Go.Proofs.YtlidegofnkmenaaDoor
open Go.ChangeShapes Go.WideShapes Go.ChangeAt Go.RowKit
set_option linter.unusedVariables false
set_option linter.unusedSimpArgs false
set_option maxRecDepth 100000
set_option maxHeartbeats 400000

def tdV : Option (UInt8 × Nat) → Value
  | none => .tuple #[.int .u8 0, .int .i64 0]
  | some (b, n) => .tuple #[.int .u8 (b.toNat : Nat), .int .i64 n]
def TdRet (x : Option (UInt8 × Nat)) (e : Ending) : Prop := e = .returned (tdV x)
theorem td_some {x : Option (UInt8 × Nat)} {b : UInt8} {n : Nat} {c : Nat} (h : x = some (b, n)) (hc : b.toNat = c) : TdRet x (.returned (.tuple #[.int .u8 c, .int .i64 n])) := by subst h; subst hc; rfl
theorem td_none {x : Option (UInt8 × Nat)} (h : x = none) : TdRet x (.returned (.tuple #[.int .u8 0, .int .i64 0])) := by subst h; rfl

theorem toldByte_any (s : ByteArray) (h0 : 0 < s.size) (w : World) :
    Calls Tryd.prog 43 #[.string s] w fun e w' => TdRet (tdP (Ls s)) e ∧ w = w' := by
  obtain ⟨c, hc⟩ : ∃ c, byN (Ls s) 0 = c := ⟨_, rfl⟩
  have hg : s[0].toNat = c := by rw [get_byN s 0 h0, hc]
  by_cases c1 : c = 92
  · subst c1
    by_cases c2 : s.size = 1
    · have HT : Hid (tdP (Ls s) = none) := Lib.hid (by unfold tdP; rw [if_pos hc, if_pos (by rw [ls_len]; omega)])
      have i1 : (s.size : Int) = 1 := by omega
      clear hc c2
      go_enter Tryd.func43, Tryd.ntmps43
      go_wp2_with fail
      go_ret2
      exact ⟨td_none HT.out, rfl⟩
    · have h1 : 1 < s.size := by omega
      obtain ⟨d, hd⟩ : ∃ d, byN (Ls s) 1 = d := ⟨_, rfl⟩
      have hgd : s[1].toNat = d := by rw [get_byN s 1 h1, hd]
      have i1 : ¬ (s.size : Int) = 1 := by omega
      have i2 : (1 : Int) < s.size := by omega
      have E : tdP (Ls s) = if byN (Ls s) 1 = 110 then some (10, 2) else if byN (Ls s) 1 = 34 ∨ byN (Ls s) 1 = 92 then some ((Ls s).getD 1 0, 2) else none := by
        unfold tdP; rw [if_pos hc, if_neg (by rw [ls_len]; omega)]
      by_cases k1 : d = 110
      · subst k1
        have HT : Hid (tdP (Ls s) = some (10, 2)) := Lib.hid (by rw [E, if_pos hd])
        clear hc c2 E hd
        go_enter Tryd.func43, Tryd.ntmps43
        go_wp2_with fail
        go_ret2
        exact ⟨td_some HT.out rfl, rfl⟩
      · by_cases k2 : d = 34
        · subst k2
          have HT : Hid (tdP (Ls s) = some ((Ls s).getD 1 0, 2)) := Lib.hid (by rw [E, if_neg (by rw [hd]; decide), if_pos (.inl hd)])
          have HD := Lib.hid hd
          clear hc c2 E hd k1
          go_enter Tryd.func43, Tryd.ntmps43
          go_wp2_with fail
          go_ret2
          exact ⟨td_some HT.out HD.out, rfl⟩
        · by_cases k3 : d = 92
          · subst k3
            have HT : Hid (tdP (Ls s) = some ((Ls s).getD 1 0, 2)) := Lib.hid (by rw [E, if_neg (by rw [hd]; decide), if_pos (.inr hd)])
            have HD := Lib.hid hd
            clear hc c2 E hd k1 k2
            go_enter Tryd.func43, Tryd.ntmps43
            go_wp2_with fail
            go_ret2
            exact ⟨td_some HT.out HD.out, rfl⟩
          · have HT : Hid (tdP (Ls s) = none) := Lib.hid (by rw [E, if_neg (by rw [hd]; exact k1), if_neg (by rw [hd]; omega)])
            have j1 : ¬ (d : Int) = 110 := by omega
            have j2 : ¬ (d : Int) = 34 := by omega
            have j3 : ¬ (d : Int) = 92 := by omega
            clear hc c2 E hd k1 k2 k3
            go_enter Tryd.func43, Tryd.ntmps43
            go_wp2_with fail
            go_ret2
            exact ⟨td_none HT.out, rfl⟩
  · have j1 : ¬ (c : Int) = 92 := by omega
    cases hp : plN c
    · have HT : Hid (tdP (Ls s) = none) := Lib.hid (by unfold tdP; rw [if_neg (by rw [hc]; exact c1), if_neg (by rw [hc, hp]; decide)])
      have HP := Lib.hid hp
      clear hc c1 hp
      go_enter Tryd.func43, Tryd.ntmps43
      go_wp2_with (go_at_call 29; refine (isPlain_is HP.out _).mono ?_; rintro e w' ⟨rfl, rfl⟩)
      go_ret2
      exact ⟨td_none HT.out, rfl⟩
    · have HT : Hid (tdP (Ls s) = some ((Ls s).getD 0 0, 1)) := Lib.hid (by unfold tdP; rw [if_neg (by rw [hc]; exact c1), if_pos (by rw [hc, hp])])
      have HP := Lib.hid hp
      have HC := Lib.hid hc
      clear hc c1 hp
      go_enter Tryd.func43, Tryd.ntmps43
      go_wp2_with (go_at_call 29; refine (isPlain_is HP.out _).mono ?_; rintro e w' ⟨rfl, rfl⟩)
      go_ret2
      exact ⟨td_some HT.out HC.out, rfl⟩
theorem toldByte_none {s : ByteArray} (h0 : 0 < s.size) (h : tdP (Ls s) = none) (w : World) : Calls Tryd.prog 43 #[.string s] w fun e w' => e = .returned (.tuple #[.int .u8 0, .int .i64 0]) ∧ w = w' := by
  have := toldByte_any s h0 w; rw [h] at this; exact this
theorem toldByte_some {s : ByteArray} {b : UInt8} {n : Nat} {c : Nat} (h0 : 0 < s.size) (h : tdP (Ls s) = some (b, n)) (hc : b.toNat = c) (w : World) : Calls Tryd.prog 43 #[.string s] w fun e w' => e = .returned (.tuple #[.int .u8 c, .int .i64 n]) ∧ w = w' := by
  have := toldByte_any s h0 w; rw [h] at this; subst hc; exact this

/-! ## Bytes in a row of one's own -/
def byL (l : List UInt8) : List Value := l.map fun x => Value.int .u8 (x.toNat : Nat)
theorem byL_snoc (l : List UInt8) (b : UInt8) : byL (l ++ [b]) = byL l ++ [.int .u8 (b.toNat : Nat)] := by simp [byL]
theorem under_bytesL : Tryd.prog.underlying 52 = some (.slice 5) := by kernel_rfl
theorem under_byteL : Tryd.prog.underlying 5 = some (.int .u8) := by kernel_rfl
theorem under_stringL : Tryd.prog.underlying 9 = some .string := by kernel_rfl
theorem info_byteL : (Tryd.prog.info? 5).map (fun i => (i.zero, i.size, i.bytes)) = some (some (.int .u8 0), 1, 1) := by kernel_rfl
theorem conv_owns {w : World} {B : Nat} {v : Value} {l : List UInt8} (h : w.ownsRow B 5 1 v l.length (byL l)) : (convert 52 9 v).run Tryd.prog w = .ok (.string ⟨l.toArray⟩) w := by
  rcases owns_parts h with ⟨rfl, h1, h2⟩ | ⟨g, cap, rest, rfl, hg, hr, e1, e2, e3, e4⟩
  · have hx : l = [] := List.length_eq_zero_iff.1 h1
    subst hx
    exact Lib.run_convert_nil_bytes w 52 9 5 0 under_bytesL under_byteL under_stringL
  · refine run_convert_bytes_back (P := Tryd.prog) w 52 9 5 ⟨g, 0, none⟩ cap l under_bytesL under_byteL under_stringL fun j hj => ?_
    rw [Addr.add_lit, hr.cell, Nat.zero_add, List.getElem?_append_left (by simp [byL]; exact hj)]
    simp [byL, List.getElem?_eq_getElem hj]
theorem own_geL {w : World} {B : Nat} {e : TypeId} {size : Nat} {v : Value} {n : Nat} {xs : List Value} (h : w.ownsRow B e size v n xs) (g : Nat) (hg : v.ownBlock = some g) : B ≤ g := by
  rcases owns_parts h with ⟨rfl, _, _⟩ | ⟨g', cap, rest, rfl, hb, _⟩
  · cases hg
  · cases hg; exact hb
theorem src_rowL {w : World} {b : Nat} {T : TypeId} {xs : List Value} (h : rowAt w b T xs) (m : Nat) : m = 0 ∨ ∃ ad, (some (⟨b, 0, none⟩ : Addr)) = some ad ∧ ∀ j u, xs[j]? = some u → w.cell? (ad.add j) = some u := by
  refine .inr ⟨_, rfl, fun j u hj => ?_⟩
  rw [Addr.add_lit, h.cell, Nat.zero_add]
  exact hj

theorem txP_eq (f k : Nat) (l : List UInt8) : txP (f + 1) k l = if l.length = 0 then none else if byN l 0 = 34 then some ([], 1) else match tdP l with
    | none => none
    | some (b, n) => if k = 60 then none else (txP f (k + 1) (l.drop n)).map fun x => (b :: x.1, n + x.2) := rfl
/-- A text's token, under way: what is told lies in a row of its own; the token's variable is as it was. -/
structure FtIn (w : World) (l : List UInt8) (v : Value) (wr : World) : Prop where
  own : wr.ownsRow (w.heap.size + 1) 5 1 v l.length (byL l)
  bel : Below w.heap.size w wr
  tok : rowAt wr w.heap.size 39 [.int .i64 0, .string ⟨#[]⟩, .int .i64 0]
theorem FtIn.lt {w wr : World} {l : List UInt8} {v : Value} (h : FtIn w l v wr) : w.heap.size + 1 ≤ wr.heap.size := h.tok.lt
theorem FtIn.below {w wr wr' : World} {l : List UInt8} {v : Value} (h : FtIn w l v wr) (hb : Below wr.heap.size wr wr') : FtIn w l v wr' where
  own := owns_upon h.own (Upon.of_below (S := fun _ => False) hb) fun _ _ t => t
  bel := h.bel.trans (hb.mono (by have := h.lt; omega))
  tok := h.tok.below hb h.tok.lt
theorem FtIn.grow {w wr wr' : World} {l l' : List UInt8} {v v' : Value} (h : FtIn w l v wr) (ho : wr'.ownsRow (w.heap.size + 1) 5 1 v' l'.length (byL l')) (hg : wr.grownBy wr' v.ownBlock) : FtIn w l' v' wr' where
  own := ho
  bel := by
    have hu : Upon (fun g => v.ownBlock = some g) wr wr' := ⟨hg.os, hg.tape, hg.output, hg.size, fun k hk h => hg.block k hk fun e => h e.symm⟩
    exact h.bel.trans (hu.belowB (by have := h.lt; omega) fun k e => by have := own_geL h.own k e; omega)
  tok := by
    have hu : Upon (fun g => v.ownBlock = some g) wr wr' := ⟨hg.os, hg.tape, hg.output, hg.size, fun k hk h => hg.block k hk fun e => h e.symm⟩
    exact h.tok.upon hu fun e => by have := own_geL h.own _ e; omega

theorem slL_len {w : World} {B : Nat} {e : TypeId} {size : Nat} {v : Value} {n : Nat} {xs : List Value} (h : w.ownsRow B e size v n xs) : ∃ a c, v = .slice a n c := owns_slice h

theorem ft_some' {x : Option (Int × List UInt8 × Nat)} {k : Int} {t : List UInt8} {n : Nat} {b : ByteArray} {m : Int} (h : x = some (k, t, n)) (hb : b = ⟨t.toArray⟩) (hm : m = n) : FtRet x (.returned (.tuple #[.agg #[.int .i64 k, .string b, .int .i64 0], .int .i64 m])) := by
  subst h; subst hb; subst hm; rfl

theorem firstText_any (s : ByteArray) (h0 : 0 < s.size) (hs : s.size ≤ 100000) (hq : byN (Ls s) 0 = 34) (w : World) :
    Calls Tryd.prog 37 #[.string s] w fun e w' => FtRet (firstP (Ls s)) e ∧ Below w.heap.size w w' := by
  have h0' : (Ls s).length ≠ 0 := by rw [ls_len]; omega
  have hF := firstP_text h0' hq
  have HF := Lib.hid hF
  obtain ⟨i0, hi, hz0, hz1, hz2⟩ := info_parts info_byteL
  clear hF h0' hq
  go_enter Tryd.func37, Tryd.ntmps37
  go_wp2_with fail
  go_loopw [4, 5] (fun v i wr => ∃ (l : List UInt8) (k f : Nat), i = .int .i64 k ∧ 1 ≤ k ∧ k ≤ s.size ∧ l.length ≤ 60 ∧ Hid (FtIn w l v wr) ∧ s.size - k < f ∧ Hid (txP (Ls s).length 0 ((Ls s).drop 1) = (txP f l.length ((Ls s).drop k)).map fun x => (l ++ x.1, k - 1 + x.2))) (fun _ i _ => s.size - (intOf i).toNat)
  case atStart =>
    refine ⟨[], 1, (Ls s).length, rfl, by omega, by omega, by simp, Lib.hid ⟨?_, below_alloc _, tok_made w _ _ _⟩, by rw [ls_len]; omega, Lib.hid ?_⟩
    · exact ⟨by simp [byL], .inl ⟨rfl, rfl⟩⟩
    · simp
  case round =>
    obtain ⟨l, k, f, rfl, hk1, hk, hl60, HI, hf, HX⟩ := hrel
    obtain ⟨f, rfl⟩ : ∃ g, f = g + 1 := ⟨f - 1, by omega⟩
    have hdl : ((Ls s).drop k).length = s.size - k := by rw [List.length_drop, ls_len]
    have hb0 : byN ((Ls s).drop k) 0 = byN (Ls s) k := by unfold byN; simp [List.getD_eq_getElem?_getD]
    obtain ⟨a, c, rfl⟩ := owns_slice HI.out.own
    have R0 := HI.out.tok
    have e0 := R0.cell 0; have e1 := R0.cell 1; have e2 := R0.cell 2
    have f0 := R0.free 0; have f1 := R0.free 1; have f2 := R0.free 2
    simp only [List.getElem?_cons_zero, List.getElem?_cons_succ] at e0 e1 e2
    have HR0 := Lib.hid R0
    clear R0
    by_cases hlt : k < s.size
    · have i1 : (k : Int) < s.size := by omega
      have hd0 : ((Ls s).drop k).length ≠ 0 := by rw [hdl]; omega
      obtain ⟨d, hd⟩ : ∃ d, byN (Ls s) k = d := ⟨_, rfl⟩
      have hg : s[k].toNat = d := by rw [get_byN s k hlt, hd]
      rw [hd] at hb0
      by_cases c1 : d = 34
      · subst c1
        have HZ : Hid (firstP (Ls s) = some (4, l, k + 1)) := Lib.hid (by
          rw [HF.out, HX.out]
          rw [show txP (f + 1) l.length ((Ls s).drop k) = some ([], 1) by rw [txP_eq, if_neg hd0, if_pos hb0]]
          simp; omega)
        have hcv := conv_owns HI.out.own
        have i3 : ¬ (k : Int) = s.size := by omega
        clear hd hb0 HX hdl hd0
        go_wp2_with fail
        refine bodyPost_ret (results_cell_tmp Tryd.results37 (by rfl) (by rfl) (row3_set HR0.out _ _ _) Tryd.underlying39 rfl info_tok) rfl ⟨ft_some' HZ.out rfl (by omega), ?_⟩
        exact below_set (below_set (below_set HI.out.bel (Nat.le_refl _) _) (Nat.le_refl _) _) (Nat.le_refl _) _
      · have j1 : ¬ (d : Int) = 34 := by omega
        have hsz : (s.extract k s.size).size = s.size - k := by rw [← ls_len, ls_from, hdl]
        cases ht : tdP ((Ls s).drop k) with
        | none =>
          have HZ : Hid (firstP (Ls s) = none) := Lib.hid (by
            rw [HF.out, HX.out]
            rw [show txP (f + 1) l.length ((Ls s).drop k) = none by rw [txP_eq, if_neg hd0, if_neg (by rw [hb0]; exact c1), ht]]
            rfl)
          have HT := fun w => toldByte_none (s := s.extract k s.size) (by rw [hsz]; omega) (by rw [ls_from]; exact ht) w
          have HB := Lib.hid HI.out.bel
          clear hd hb0 HX hdl hd0 ht c1 hsz HI HF
          go_wp2_with (go_at_call 43; refine (HT _).mono ?_; rintro e w' ⟨rfl, rfl⟩)
          refine bodyPost_ret (results_cell_tmp Tryd.results37 (by rfl) (by rfl) (row3_set HR0.out _ _ _) Tryd.underlying39 rfl info_tok) rfl ⟨ft_none HZ.out, ?_⟩
          exact below_set (below_set (below_set HB.out (Nat.le_refl _) _) (Nat.le_refl _) _) (Nat.le_refl _) _
        | some x =>
          obtain ⟨b, m⟩ := x
          obtain ⟨hm0, hm1⟩ := tdP_le hd0 ht
          rw [hdl] at hm1
          obtain ⟨y, hy⟩ : ∃ y, b.toNat = y := ⟨_, rfl⟩
          have HT := fun w => toldByte_some (s := s.extract k s.size) (by rw [hsz]; omega) (by rw [ls_from]; exact ht) hy w
          have i4 : ((m : Int) == 0) = false := by rw [beq_eq_false_iff_ne]; omega
          by_cases c2 : l.length = 60
          · have HZ : Hid (firstP (Ls s) = none) := Lib.hid (by
              rw [HF.out, HX.out]
              rw [show txP (f + 1) l.length ((Ls s).drop k) = none by rw [txP_eq, if_neg hd0, if_neg (by rw [hb0]; exact c1), ht]; simp only; rw [if_pos c2]]
              rfl)
            have HB := Lib.hid HI.out.bel
            have i5 : ((l.length : Int) == 60) = true := by rw [beq_iff_eq]; omega
            clear hd hb0 HX hdl hd0 ht c1 hsz HI HF hy c2
            go_wp2_with (go_at_call 43; refine (HT _).mono ?_; rintro e w' ⟨rfl, rfl⟩)
            refine bodyPost_ret (results_cell_tmp Tryd.results37 (by rfl) (by rfl) (row3_set HR0.out _ _ _) Tryd.underlying39 rfl info_tok) rfl ⟨ft_none HZ.out, ?_⟩
            exact below_set (below_set (below_set HB.out (Nat.le_refl _) _) (Nat.le_refl _) _) (Nat.le_refl _) _
          · have HX2 : Hid (txP (Ls s).length 0 ((Ls s).drop 1) = (txP f (l ++ [b]).length ((Ls s).drop (k + m))).map fun x => (l ++ [b] ++ x.1, k + m - 1 + x.2)) := Lib.hid (by
              rw [HX.out]
              rw [show txP (f + 1) l.length ((Ls s).drop k) = (txP f (l.length + 1) (((Ls s).drop k).drop m)).map fun x => (b :: x.1, m + x.2) by rw [txP_eq, if_neg hd0, if_neg (by rw [hb0]; exact c1), ht]; simp only; rw [if_neg c2]]
              rw [List.drop_drop, Option.map_map, List.length_append]
              congr 1
              funext x
              simp
              omega)
            have i5 : ((l.length : Int) == 60) = false := by rw [beq_eq_false_iff_ne]; omega
            obtain ⟨W, hW⟩ : ∃ W, wr.alloc (.cells #[.int .u8 (y : Nat)] 5) = W := ⟨_, rfl⟩
            have hbW : Below wr.heap.size wr W := by rw [← hW]; exact (Below.refl _ _).alloc (Nat.le_refl _) _
            have ROW := Lib.hid (show rowAt W wr.heap.size 5 [.int .u8 (y : Nat)] by rw [← hW]; exact rowAt.made _ _ _)
            have FW := Lib.hid (HI.out.below hbW)
            have OWN := Lib.hid FW.out.own
            have zW := Lib.hid FW.out.lt
            have HBY : Hid (byL (l ++ [b]) = byL l ++ [.int .u8 (y : Nat)]) := Lib.hid (by rw [byL_snoc, hy])
            have hk5 : k + m ≤ s.size := by omega
            clear hd hb0 HX hdl hd0 ht c1 hsz HI HF hy hbW HR0 e0 e1 e2 f0 f1 f2
            go_wp2_with (first | (go_at_call 43; refine (HT _).mono ?_; rintro e w' ⟨rfl, rfl⟩) | (at_builtin; refine wpList_append_w (by rfl) _ _ _ (by rfl) (w.heap.size + 1) 5 i0 (.int .u8 0) 1 1 under_bytesL hi hz0 hz1 hz2 (by rfl) (by decide) (.slice a l.length c) l.length (byL l) (by rfl) OWN.out _ 1 1 [.int .u8 (y : Nat)] (by rfl) (by rfl) (src_rowL ROW.out 1) (by simp [Value.oneCell']) (by unfold maxLen; omega) (by omega) zW.out ?_; intro v' w2 hown2 hgrow2 hb2; obtain ⟨a2, c2', rfl⟩ := owns_slice hown2; have HOW2 := Lib.hid hown2; have HGR2 := Lib.hid hgrow2; clear hown2 hgrow2 hb2))
            go_roundw
            case rel => exact ⟨l ++ [b], k + m, f, by go_num, by omega, by omega, by simp; omega, Lib.hid (FW.out.grow (l' := l ++ [b]) (by rw [HBY.out, List.length_append]; exact HOW2.out) HGR2.out), by omega, HX2⟩
            case measure => simp [intOf]; omega
    · have hkk : k = s.size := by omega
      have HZ : Hid (firstP (Ls s) = none) := Lib.hid (by
        rw [HF.out, HX.out]
        rw [show txP (f + 1) l.length ((Ls s).drop k) = none by rw [txP_eq, if_pos (by rw [hdl]; omega)]]
        rfl)
      have HB := Lib.hid HI.out.bel
      have i1 : (s.size : Int) ≤ k := by omega
      have i2 : (k : Int) = s.size := by omega
      clear hb0 HX hdl HI HF hlt hkk
      go_wp2_with fail
      refine bodyPost_ret (results_cell_tmp Tryd.results37 (by rfl) (by rfl) (row3_set HR0.out _ _ _) Tryd.underlying39 rfl info_tok) rfl ⟨ft_none HZ.out, ?_⟩
      exact below_set (below_set (below_set HB.out (Nat.le_refl _) _) (Nat.le_refl _) _) (Nat.le_refl _) _
end Go.Proofs.YtlidegofnkmenaaDoor
