/-
  Package code: the reader's lists of constructors, of texts.
  Conditions: as each states.
-/
import Derived.Test.YtabdbciebhmflaaDoorCoS
import Derived.LoopTactic
namespace Go.Proofs.YtabdbciebhmflaaDoor
open Go.ChangeShapes Go.WideShapes Go.ChangeAt Go.RowKit
set_option linter.unusedVariables false
set_option linter.unusedSimpArgs false
set_option maxRecDepth 100000

theorem info_strs : (Tryd.prog.info? 9).map (fun i => (i.zero, i.size, i.bytes)) = some (some (.string ⟨#[]⟩), 1, 16) := by kernel_rfl
theorem under_strs : Tryd.prog.underlying 23 = some (.slice 9) := by kernel_rfl
abbrev intL (l : List Int) : List Value := l.map (Value.int .i64)

set_option maxHeartbeats 4000000 in
theorem ints_any {B0 : Nat} {w : World} {p : Nat} {s : Rd} (h : RdAt B0 w p s) (N : Nat) (hN : N ≤ 70000) :
    Calls Tryd.prog 51 #[.pointer (some ⟨p, 0, none⟩), .int .i64 N, .func (.func 52) #[.pointer (some ⟨p, 0, none⟩)] #[]] w
      (ListPost B0 w p 3 1 (rdList rdCon N s).1.length (intL (rdList rdCon N s).1) (rdList rdCon N s).2) := by
  have hlow := h.low
  have hplt := h.lt
  obtain ⟨i0, hi, hz0, hz1, hz2⟩ := info_parts info_i64
  go_enter Tryd.func51, Tryd.ntmps51
  go_wp2_with fail
  go_loopw [7] (fun v wr => ∃ (xs : List Int) (m : Nat) (st : Rd), xs.length + m = N ∧ Hid (wr.ownsRow w.heap.size 3 1 v xs.length (intL xs)) ∧ Hid (RdAt B0 wr p st) ∧ Hid (Since p w wr) ∧ Hid (rdList rdCon N s = (xs ++ (rdList rdCon m st).1, (rdList rdCon m st).2))) (fun v _ => N - slLen v)
  case atStart => exact ⟨[], N, s, by simp, Lib.hid (World.ownsRow_nil _ _ _ 1), Lib.hid h, Lib.hid (Upon.refl _ _), Lib.hid (by simp)⟩
  case round =>
    obtain ⟨xs, m, st, hm, HO, HR, HS, HL⟩ := hrel
    obtain ⟨a, c, rfl⟩ := owns_slice HO.out
    obtain ⟨c1, -⟩ := HR.out.cells
    by_cases hm0 : m = 0
    · have PO := Lib.hid (show ListPost B0 w p 3 1 (rdList rdCon N s).1.length (intL (rdList rdCon N s).1) (rdList rdCon N s).2 (.returned (.slice a xs.length c)) wr from by
        rw [HL.out, list_done _ m (.inl hm0), List.append_nil]; exact ⟨_, rfl, HO.out, HR.out, HS.out⟩)
      have hx : ¬ ((xs.length : Int) < N) := by omega
      have hx' : N ≤ xs.length := by omega
      go_wp2_with fail
      go_ret
      exact PO.out
    · have hx : xs.length < N := by omega
      cases hst : st.2
      · rw [hst] at c1
        obtain ⟨m', rfl⟩ : ∃ m', m = m' + 1 := ⟨m - 1, by omega⟩
        have HN := Lib.hid (list_next rdCon m' hst)
        clear hst
        go_wp2_with fail
        refine (con_any HR.out).mono ?_
        rintro e w1 ⟨rfl, hr, hu⟩
        obtain ⟨⟨q, st1⟩, hq⟩ : ∃ x, rdCon st = x := ⟨_, rfl⟩
        have HN2 := HN.out
        rw [hq] at hr HN2
        rw [hq]
        simp only at hr HN2 ⊢
        have HN3 := Lib.hid HN2
        have ho1 : w1.ownsRow w.heap.size 3 1 (.slice a xs.length c) xs.length (intL xs) := owns_upon HO.out hu fun g hg e => by
          have := own_ge HO.out g hg; omega
        obtain ⟨W, hW⟩ : ∃ W, w1.alloc (.cells #[.int .i64 q] 3) = W := ⟨_, rfl⟩
        have hbW : Below w1.heap.size w1 W := by rw [← hW]; exact (Below.refl _ _).alloc (Nat.le_refl _) _
        have ROW := Lib.hid (show rowAt W w1.heap.size 3 [.int .i64 q] by rw [← hW]; exact rowAt.made _ _ _)
        have OWN := Lib.hid (owns_upon ho1 (upon_of_below hbW) fun _ _ t => t)
        have RW := Lib.hid (hr.below hbW)
        have SW := Lib.hid ((HS.out.more hu).below hbW)
        have zW := Lib.hid (Nat.le_trans SW.out.size (Nat.le_refl _))
        clear hr hu ho1 hbW HN2 hq
        go_wp2_with (at_builtin; refine wpList_append_w (by rfl) _ _ _ (by rfl) w.heap.size 3 i0 (.int .i64 0) 1 8 under_i64s hi hz0 hz1 hz2 (by rfl) (by decide) (.slice a xs.length c) xs.length (intL xs) (by rfl) OWN.out _ 1 1 [.int .i64 q] (by rfl) (by rfl) (src_row ROW.out 1) (by simp [Value.oneCell']) (by unfold maxLen; omega) (by omega) zW.out ?_; intro v' w2 hown2 hgrow2 hb2; obtain ⟨a2, c2, rfl⟩ := owns_slice hown2; have HOW2 := Lib.hid hown2; have HGR2 := Lib.hid hgrow2; clear hown2 hgrow2 hb2)
        clear hW
        obtain ⟨x1, x2⟩ := list_grown OWN.out HGR2.out RW.out SW.out hplt
        have X1 := Lib.hid x1
        have X2 := Lib.hid x2
        clear x1 x2
        go_wp2_with fail
        go_roundw
        case rel => exact ⟨xs ++ [q], m', st1, by simp; omega, Lib.hid (by rw [List.length_append, show intL (xs ++ [q]) = intL xs ++ [.int .i64 q] from by simp]; exact HOW2.out), X1, X2, Lib.hid (by rw [HL.out, HN3.out]; simp)⟩
        case measure => simp [slLen]; omega
      · rw [hst] at c1
        have PO := Lib.hid (show ListPost B0 w p 3 1 (rdList rdCon N s).1.length (intL (rdList rdCon N s).1) (rdList rdCon N s).2 (.returned (.slice a xs.length c)) wr from by
          rw [HL.out, list_done _ m (.inr hst), List.append_nil]; exact ⟨_, rfl, HO.out, HR.out, HS.out⟩)
        clear hst
        go_wp2_with fail
        go_ret
        exact PO.out
set_option maxHeartbeats 4000000 in
theorem strs_any {B0 : Nat} {w : World} {p : Nat} {s : Rd} (h : RdAt B0 w p s) (N : Nat) (hN : N ≤ 70000) :
    Calls Tryd.prog 41 #[.pointer (some ⟨p, 0, none⟩), .int .i64 N, .func (.func 42) #[.pointer (some ⟨p, 0, none⟩)] #[]] w
      (ListPost B0 w p 9 1 (rdList rdStr N s).1.length (strL (rdList rdStr N s).1) (rdList rdStr N s).2) := by
  have hlow := h.low
  have hplt := h.lt
  obtain ⟨i0, hi, hz0, hz1, hz2⟩ := info_parts info_strs
  go_enter Tryd.func41, Tryd.ntmps41
  go_wp2_with fail
  go_loopw [7] (fun v wr => ∃ (xs : List ByteArray) (m : Nat) (st : Rd), xs.length + m = N ∧ Hid (wr.ownsRow w.heap.size 9 1 v xs.length (strL xs)) ∧ Hid (RdAt B0 wr p st) ∧ Hid (Since p w wr) ∧ Hid (rdList rdStr N s = (xs ++ (rdList rdStr m st).1, (rdList rdStr m st).2))) (fun v _ => N - slLen v)
  case atStart => exact ⟨[], N, s, by simp, Lib.hid (World.ownsRow_nil _ _ _ 1), Lib.hid h, Lib.hid (Upon.refl _ _), Lib.hid (by simp)⟩
  case round =>
    obtain ⟨xs, m, st, hm, HO, HR, HS, HL⟩ := hrel
    obtain ⟨a, c, rfl⟩ := owns_slice HO.out
    obtain ⟨c1, -⟩ := HR.out.cells
    by_cases hm0 : m = 0
    · have PO := Lib.hid (show ListPost B0 w p 9 1 (rdList rdStr N s).1.length (strL (rdList rdStr N s).1) (rdList rdStr N s).2 (.returned (.slice a xs.length c)) wr from by
        rw [HL.out, list_done _ m (.inl hm0), List.append_nil]; exact ⟨_, rfl, HO.out, HR.out, HS.out⟩)
      have hx : ¬ ((xs.length : Int) < N) := by omega
      have hx' : N ≤ xs.length := by omega
      go_wp2_with fail
      go_ret
      exact PO.out
    · have hx : xs.length < N := by omega
      cases hst : st.2
      · rw [hst] at c1
        obtain ⟨m', rfl⟩ : ∃ m', m = m' + 1 := ⟨m - 1, by omega⟩
        have HN := Lib.hid (list_next rdStr m' hst)
        clear hst
        go_wp2_with fail
        refine (text_any HR.out).mono ?_
        rintro e w1 ⟨rfl, hr, hu⟩
        obtain ⟨⟨q, st1⟩, hq⟩ : ∃ x, rdStr st = x := ⟨_, rfl⟩
        have HN2 := HN.out
        rw [hq] at hr HN2
        rw [hq]
        simp only at hr HN2 ⊢
        have HN3 := Lib.hid HN2
        have ho1 : w1.ownsRow w.heap.size 9 1 (.slice a xs.length c) xs.length (strL xs) := owns_upon HO.out hu fun g hg e => by
          have := own_ge HO.out g hg; omega
        obtain ⟨W, hW⟩ : ∃ W, w1.alloc (.cells #[.string q] 9) = W := ⟨_, rfl⟩
        have hbW : Below w1.heap.size w1 W := by rw [← hW]; exact (Below.refl _ _).alloc (Nat.le_refl _) _
        have ROW := Lib.hid (show rowAt W w1.heap.size 9 [.string q] by rw [← hW]; exact rowAt.made _ _ _)
        have OWN := Lib.hid (owns_upon ho1 (upon_of_below hbW) fun _ _ t => t)
        have RW := Lib.hid (hr.below hbW)
        have SW := Lib.hid ((HS.out.more hu).below hbW)
        have zW := Lib.hid (Nat.le_trans SW.out.size (Nat.le_refl _))
        clear hr hu ho1 hbW HN2 hq
        go_wp2_with (at_builtin; refine wpList_append_w (by rfl) _ _ _ (by rfl) w.heap.size 9 i0 (.string ⟨#[]⟩) 1 16 under_strs hi hz0 hz1 hz2 (by rfl) (by decide) (.slice a xs.length c) xs.length (strL xs) (by rfl) OWN.out _ 1 1 [.string q] (by rfl) (by rfl) (src_row ROW.out 1) (by simp [Value.oneCell']) (by unfold maxLen; omega) (by omega) zW.out ?_; intro v' w2 hown2 hgrow2 hb2; obtain ⟨a2, c2, rfl⟩ := owns_slice hown2; have HOW2 := Lib.hid hown2; have HGR2 := Lib.hid hgrow2; clear hown2 hgrow2 hb2)
        clear hW
        obtain ⟨x1, x2⟩ := list_grown OWN.out HGR2.out RW.out SW.out hplt
        have X1 := Lib.hid x1
        have X2 := Lib.hid x2
        clear x1 x2
        go_wp2_with fail
        go_roundw
        case rel => exact ⟨xs ++ [q], m', st1, by simp; omega, Lib.hid (by rw [List.length_append, show strL (xs ++ [q]) = strL xs ++ [.string q] from by simp]; exact HOW2.out), X1, X2, Lib.hid (by rw [HL.out, HN3.out]; simp)⟩
        case measure => simp [slLen]; omega
      · rw [hst] at c1
        have PO := Lib.hid (show ListPost B0 w p 9 1 (rdList rdStr N s).1.length (strL (rdList rdStr N s).1) (rdList rdStr N s).2 (.returned (.slice a xs.length c)) wr from by
          rw [HL.out, list_done _ m (.inr hst), List.append_nil]; exact ⟨_, rfl, HO.out, HR.out, HS.out⟩)
        clear hst
        go_wp2_with fail
        go_ret
        exact PO.out
end Go.Proofs.YtabdbciebhmflaaDoor
