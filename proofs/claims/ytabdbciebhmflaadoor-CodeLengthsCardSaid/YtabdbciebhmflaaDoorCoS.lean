/-
  Package code: the reader's lists of instructions and of constructors.
  Conditions: as each states.
-/
import Derived.Test.YtabdbciebhmflaaDoorCoR
import Derived.LoopTactic
namespace Go.Proofs.YtabdbciebhmflaaDoor
open Go.ChangeShapes Go.WideShapes Go.ChangeAt Go.RowKit
set_option linter.unusedVariables false
set_option linter.unusedSimpArgs false
set_option maxRecDepth 100000

def slLen : Value → Nat
  | .slice _ n _ => n
  | _ => 0
theorem info_ins : (Tryd.prog.info? 47).map (fun i => (i.zero, i.size, i.bytes)) = some (some (.agg #[.int .i64 0, .int .i64 0, .int .i64 0]), 3, 24) := by kernel_rfl
theorem under_inss : Tryd.prog.underlying 43 = some (.slice 47) := by kernel_rfl
theorem info_i64 : (Tryd.prog.info? 3).map (fun i => (i.zero, i.size, i.bytes)) = some (some (.int .i64 0), 1, 8) := by kernel_rfl
theorem under_i64s : Tryd.prog.underlying 48 = some (.slice 3) := by kernel_rfl

/-- A list of a reader's own: what it tells, where the reader stands. -/
def ListPost (B0 : Nat) (w : World) (p : Nat) (T : TypeId) (size : Nat) (n : Nat) (cs : List Value) (s : Rd) (e : Ending) (w' : World) : Prop :=
  ∃ v, e = .returned v ∧ w'.ownsRow w.heap.size T size v n cs ∧ RdAt B0 w' p s ∧ Since p w w'
theorem own_ge {w : World} {B : Nat} {e : TypeId} {size : Nat} {v : Value} {n : Nat} {xs : List Value} (h : w.ownsRow B e size v n xs) : ∀ g, v.ownBlock = some g → B ≤ g ∧ g < w.heap.size := by
  intro g hg
  rcases owns_parts h with ⟨rfl, _, _⟩ | ⟨g', cap, rest, rfl, h1, hr, _⟩
  · cases hg
  · cases hg; exact ⟨h1, hr.lt⟩
/-- Behind an append onto the list: the reader, what stays. -/
theorem list_grown {B0 : Nat} {w W W' : World} {p : Nat} {T : TypeId} {size n : Nat} {v : Value} {xs : List Value} {s : Rd} (ho : W.ownsRow w.heap.size T size v n xs) (hg : W.grownBy W' v.ownBlock) (hr : RdAt B0 W p s) (hs : Since p w W) (hp : p < w.heap.size) :
    RdAt B0 W' p s ∧ Since p w W' := by
  have hu : Upon (fun g => v.ownBlock = some g) W W' := ⟨hg.os, hg.tape, hg.output, hg.size, fun k hk h => hg.block k hk fun e => h e.symm⟩
  have hl := hr.low
  refine ⟨hr.upon hu (fun k _ e => ?_) (fun e => ?_), hs.trans hu fun i hi e => ?_⟩
  · have := own_ge ho k e; omega
  · have := own_ge ho p e; omega
  · have := own_ge ho i e; omega
theorem list_done {α : Type} (one : Rd → α × Rd) (m : Nat) {s : Rd} (h : m = 0 ∨ s.2 = true) : rdList one m s = ([], s) := by
  cases m with
  | zero => rfl
  | succ m => exact if_pos (h.resolve_left (by omega))
theorem list_next {α : Type} (one : Rd → α × Rd) (m : Nat) {s : Rd} (h : s.2 = false) : rdList one (m + 1) s = ((one s).1 :: (rdList one m (one s).2).1, (rdList one m (one s).2).2) := if_neg (by rw [h]; decide)

set_option maxHeartbeats 4000000 in
theorem inss_any {B0 : Nat} {w : World} {p : Nat} {s : Rd} (h : RdAt B0 w p s) (T : WTab w) (hT : 0 < B0 ∧ 1 < B0) (N : Nat) (hN : N ≤ 70000) :
    Calls Tryd.prog 48 #[.pointer (some ⟨p, 0, none⟩), .int .i64 N, .func (.func 49) #[.pointer (some ⟨p, 0, none⟩)] #[]] w
      (ListPost B0 w p 47 3 (rdList rdIns N s).1.length (insL (rdList rdIns N s).1) (rdList rdIns N s).2) := by
  have hlow := h.low
  have hplt := h.lt
  obtain ⟨i0, hi, hz0, hz1, hz2⟩ := info_parts info_ins
  go_enter Tryd.func48, Tryd.ntmps48
  go_wp2_with fail
  go_loopw [7] (fun v wr => ∃ (xs : List PIns) (m : Nat) (st : Rd), xs.length + m = N ∧ Hid (wr.ownsRow w.heap.size 47 3 v xs.length (insL xs)) ∧ Hid (RdAt B0 wr p st) ∧ Hid (Since p w wr) ∧ Hid (rdList rdIns N s = (xs ++ (rdList rdIns m st).1, (rdList rdIns m st).2))) (fun v _ => N - slLen v)
  case atStart => exact ⟨[], N, s, by simp, Lib.hid (World.ownsRow_nil _ _ _ 3), Lib.hid h, Lib.hid (Upon.refl _ _), Lib.hid (by simp)⟩
  case round =>
    obtain ⟨xs, m, st, hm, HO, HR, HS, HL⟩ := hrel
    obtain ⟨a, c, rfl⟩ := owns_slice HO.out
    obtain ⟨c1, -⟩ := HR.out.cells
    by_cases hm0 : m = 0
    · have PO := Lib.hid (show ListPost B0 w p 47 3 (rdList rdIns N s).1.length (insL (rdList rdIns N s).1) (rdList rdIns N s).2 (.returned (.slice a xs.length c)) wr from by
        rw [HL.out, list_done _ m (.inl hm0), List.append_nil]; exact ⟨_, rfl, HO.out, HR.out, HS.out⟩)
      have hx : ¬ ((xs.length : Int) < N) := by omega
      have hx' : N ≤ xs.length := by omega
      go_wp2_with fail
      go_ret
      exact PO.out
    · have hx : xs.length < N := by omega
      cases hst : st.2
      · rw [hst] at c1
        obtain ⟨m', rfl⟩ : ∃ m', m = m' + 1 := ⟨m - 1, by omega⟩
        have HN := Lib.hid (list_next rdIns m' hst)
        clear hst
        go_wp2_with fail
        refine (instruction_any HR.out (T.upon HS.out ⟨by omega, by omega⟩) hT).mono ?_
        rintro e w1 ⟨rfl, hr, hu⟩
        obtain ⟨⟨⟨qo, qa, qb⟩, st1⟩, hq⟩ : ∃ x, rdIns st = x := ⟨_, rfl⟩
        have HN2 := HN.out
        rw [hq] at hr HN2
        rw [hq]
        simp only at hr HN2 ⊢
        have HN3 := Lib.hid HN2
        have ho1 : w1.ownsRow w.heap.size 47 3 (.slice a xs.length c) xs.length (insL xs) := owns_upon HO.out hu fun g hg e => by
          have := own_ge HO.out g hg; omega
        obtain ⟨W, hW⟩ : ∃ W, w1.alloc (.cells #[.int .i64 qo, .int .i64 qa, .int .i64 qb] 47) = W := ⟨_, rfl⟩
        have hbW : Below w1.heap.size w1 W := by rw [← hW]; exact (Below.refl _ _).alloc (Nat.le_refl _) _
        have ROW := Lib.hid (show rowAt W w1.heap.size 47 [.int .i64 qo, .int .i64 qa, .int .i64 qb] by rw [← hW]; exact rowAt.made _ _ _)
        have OWN := Lib.hid (owns_upon ho1 (upon_of_below hbW) fun _ _ t => t)
        have RW := Lib.hid (hr.below hbW)
        have SW := Lib.hid ((HS.out.more hu).below hbW)
        have zW := Lib.hid (Nat.le_trans SW.out.size (Nat.le_refl _))
        clear hr hu ho1 hbW HN2 hq
        go_wp2_with (at_builtin; refine wpList_append_w (by rfl) _ _ _ (by rfl) w.heap.size 47 i0 (.agg #[.int .i64 0, .int .i64 0, .int .i64 0]) 3 24 under_inss hi hz0 hz1 hz2 (by rfl) (by decide) (.slice a xs.length c) xs.length (insL xs) (by rfl) OWN.out _ 1 1 [.int .i64 qo, .int .i64 qa, .int .i64 qb] (by rfl) (by rfl) (src_row ROW.out 1) (by simp [Value.oneCell']) (by unfold maxLen; omega) (by omega) zW.out ?_; intro v' w2 hown2 hgrow2 hb2; obtain ⟨a2, c2, rfl⟩ := owns_slice hown2; have HOW2 := Lib.hid hown2; have HGR2 := Lib.hid hgrow2; clear hown2 hgrow2 hb2)
        clear hW
        obtain ⟨x1, x2⟩ := list_grown OWN.out HGR2.out RW.out SW.out hplt
        have X1 := Lib.hid x1
        have X2 := Lib.hid x2
        clear x1 x2
        go_wp2_with fail
        go_roundw
        case rel => exact ⟨xs ++ [(qo, qa, qb)], m', st1, by simp; omega, Lib.hid (by rw [List.length_append, insL_snoc]; exact HOW2.out), X1, X2, Lib.hid (by rw [HL.out, HN3.out]; simp)⟩
        case measure => simp [slLen]; omega
      · rw [hst] at c1
        have PO := Lib.hid (show ListPost B0 w p 47 3 (rdList rdIns N s).1.length (insL (rdList rdIns N s).1) (rdList rdIns N s).2 (.returned (.slice a xs.length c)) wr from by
          rw [HL.out, list_done _ m (.inr hst), List.append_nil]; exact ⟨_, rfl, HO.out, HR.out, HS.out⟩)
        clear hst
        go_wp2_with fail
        go_ret
        exact PO.out
end Go.Proofs.YtabdbciebhmflaaDoor
