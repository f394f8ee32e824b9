/-
  The queue's contracts: New, find, take, Len, Push, Pop, Drop.
  Conditions: as stated.
-/
import Derived.Test.YtgcmkhbpkmfpkaaQI
import Derived.Deep.QuietTactic
import Derived.BigQuiet
namespace Go.Proofs.Ytgcmkhbpkmfpkaa
open Go.ChangeShapes Go.WideShapes Go.ChangeAt Go.RowKit
set_option linter.unusedVariables false
set_option linter.unusedSimpArgs false
set_option maxRecDepth 100000

/-- A heap's row l, and the same entries as they come, s. -/
structure Sorts (l s : List En) : Prop where
  heap : HeapF (atE l) l.length
  rises : Rises s
  perm : l.Perm s

theorem Sorts.nil : Sorts [] [] := ⟨fun c _ h => by simp at h, List.Pairwise.nil, List.Perm.refl _⟩
theorem Sorts.root {l t : List En} {e : En} (h : Sorts l (e :: t)) : 0 < l.length ∧ atE l 0 = e := by
  have hl : 0 < l.length := by rw [h.perm.length_eq]; simp
  refine ⟨hl, ?_⟩
  have h1 : e ∈ l := h.perm.mem_iff.2 (by simp)
  have h2 : atE l 0 ∈ e :: t := h.perm.mem_iff.1 (by rw [atE_get hl]; exact List.getElem_mem hl)
  obtain ⟨i, hi, hie⟩ := List.getElem_of_mem h1
  have h3 := h.heap.root i hi
  rw [atE_get hi, hie] at h3
  rcases List.mem_cons.1 h2 with h2 | h2
  · exact h2
  · have h4 := (List.pairwise_cons.1 h.rises).1 _ h2
    exact absurd h4 (not_ltE h3)
theorem Sorts.push {l l' s : List En} {e : En} (h : Sorts l s) (hk : ∀ x ∈ s, x.1 ≠ e.1) (hp : l'.Perm (l ++ [e])) (hh : HeapF (atE l') l'.length) : Sorts l' (insE e s) :=
  ⟨hh, insE_rises h.rises hk, (hp.trans ((List.perm_append_comm).trans ((h.perm).cons e))).trans (insE_perm e s).symm⟩
theorem Sorts.pop {l l' t : List En} {e : En} (h : Sorts l (e :: t)) (hp : (l' ++ [e]).Perm l) (hh : HeapF (atE l') l'.length) : Sorts l' t :=
  ⟨hh, (List.pairwise_cons.1 h.rises).2, List.Perm.cons_inv (((List.perm_append_comm (l₁ := [e]) (l₂ := l')).trans hp).trans h.perm)⟩
theorem Sorts.drop {l l' s : List En} {e : En} (h : Sorts l s) (hd : (l.map (·.1)).Nodup) (hp : (l' ++ [e]).Perm l) (hh : HeapF (atE l') l'.length) : Sorts l' (s.filter fun x => decide (x.1 ≠ e.1)) := by
  refine ⟨hh, List.Pairwise.filter _ h.rises, ?_⟩
  have h1 : (e :: l').Perm l := (List.perm_append_comm (l₁ := [e]) (l₂ := l')).trans hp
  have h2 := (h1.trans h.perm).filter fun x => decide (x.1 ≠ e.1)
  have h3 : ((e :: l').map (·.1)).Nodup := ((h1.map (·.1)).nodup_iff).2 hd
  have h4 : ∀ x ∈ l', x.1 ≠ e.1 := by
    intro x hx ex
    rw [List.map_cons, List.nodup_cons] at h3
    exact h3.1 (ex ▸ List.mem_map_of_mem hx)
  have h5 : (e :: l').filter (fun x => decide (x.1 ≠ e.1)) = l' := by
    rw [List.filter_cons_of_neg (by simp)]
    exact List.filter_eq_self.2 fun x hx => by simpa using h4 x hx
  rwa [h5] at h2

/-- At q there is a queue whose entries, as they come, are s; its blocks are those of F. -/
def QH (w : World) (q : Nat) (F : Nat → Prop) (s : List En) : Prop :=
  ∃ p Fr l, rowAt w q 54 [.iface 46 (.pointer (some ⟨p, 0, none⟩))] ∧ HQ w p Fr l ∧ ¬ Fr q ∧ Sorts l s ∧ ∀ k, F k ↔ (k = q ∨ Fr k)

theorem QH.upon {w w' : World} {q : Nat} {F : Nat → Prop} {s : List En} (h : QH w q F s) {S : Nat → Prop} (hu : Upon S w w') (hS : ∀ k, F k → ¬ S k) : QH w' q F s := by
  obtain ⟨p, Fr, l, h1, h2, h3, h4, h5⟩ := h
  exact ⟨p, Fr, l, h1.upon hu (hS q ((h5 q).2 (.inl rfl))), h2.upon hu fun k hk => hS k ((h5 k).2 (.inr hk)), h3, h4, h5⟩
theorem QH.below {w w' : World} {q : Nat} {F : Nat → Prop} {s : List En} (h : QH w q F s) (hb : Below w.heap.size w w') : QH w' q F s :=
  h.upon (S := fun _ => False) (Upon.of_below hb) fun _ _ h => h
theorem QH.lt {w : World} {q : Nat} {F : Nat → Prop} {s : List En} (h : QH w q F s) : ∀ k, F k → k < w.heap.size := by
  obtain ⟨p, Fr, l, h1, h2, h3, h4, h5⟩ := h
  intro k hk
  rcases (h5 k).1 hk with rfl | hk
  · exact h1.lt
  · exact h2.lt k hk
theorem QH.rises {w : World} {q : Nat} {F : Nat → Prop} {s : List En} (h : QH w q F s) : Rises s := by
  obtain ⟨p, Fr, l, h1, h2, h3, h4, h5⟩ := h
  exact h4.rises
theorem QH.max {w : World} {q : Nat} {F : Nat → Prop} {s : List En} (h : QH w q F s) : s.length ≤ 100000 := by
  obtain ⟨p, Fr, l, h1, h2, h3, h4, h5⟩ := h
  rw [← h4.perm.length_eq]
  exact h2.max
theorem QH.nodup {w : World} {q : Nat} {F : Nat → Prop} {s : List En} (h : QH w q F s) : (s.map (·.1)).Nodup := by
  obtain ⟨p, Fr, l, h1, h2, h3, h4, h5⟩ := h
  exact ((h4.perm.map (·.1)).nodup_iff).1 h2.nodup

theorem qnew_any (w : World) :
    Calls Try.prog 6 #[] w fun x w' => ∃ q F, x = .returned (.pointer (some ⟨q, 0, none⟩)) ∧ QH w' q F [] ∧ StepQ (fun _ => False) F w w' := by
  have hmm := @run_makeMap Try.prog
  go_enter Try.func6, Try.ntmps6
  go_wp2_with fail
  go_ret
  refine ⟨_, fun k => k = w.heap.size + 1 + 1 ∨ footR (w.heap.size + 1) w.heap.size (.slice none 0 0) k, rfl, ⟨w.heap.size + 1, footR (w.heap.size + 1) w.heap.size (.slice none 0 0), [], ?_, ⟨w.heap.size, .slice none 0 0, ⟨?_, World.ownsRow_nil _ _ _ _, ⟨fun _ => none, ?_, Places.nil⟩, by omega, (fun g hg => by cases hg), by simp⟩, fun _ => Iff.rfl⟩, ?_, Sorts.nil, fun _ => Iff.rfl⟩, ?_⟩
  · exact rowAt.made_at _ _ (by simp)
  · exact (rowAt.made_at _ _ (by simp)).alloc _
  · exact ((mapAt.made w).of_heap (Below.heap_alloc _ _ _ (by simp))).of_heap (Below.heap_alloc _ _ _ (by simp; omega)) |>.congr fun k => rfl
  · rintro (h | h | h)
    · omega
    · omega
    · cases h
  · refine ⟨Upon.of_below ((((Below.refl _ _).alloc (Nat.le_refl _) _).alloc (by simp) _).alloc (by simp; omega) _), ?_⟩
    rintro k (rfl | rfl | rfl | h)
    · exact .inr (by omega)
    · exact .inr (by omega)
    · exact .inr (Nat.le_refl _)
    · cases h

theorem place_yes {w : World} {p : Nat} {F : Nat → Prop} {l : List En} (h : HQ w p F l) {i : Nat} (hi : i < l.length) {k : Int} (hk : (atE l i).1 = k) :
    Calls Try.prog 43 #[.pointer (some ⟨p, 0, none⟩), .int .i64 k] w fun e w' => e = .returned (.tuple #[.int .i64 i, .bool true]) ∧ w = w' := by
  obtain ⟨bm, sv, h, hF⟩ := h
  obtain ⟨f, hf, hp⟩ := h.places
  refine (rplace_any h.root hf k).mono fun e w' ⟨he, hw⟩ => ⟨?_, hw⟩
  have := (hp k i).2 ⟨hi, hk⟩
  rw [he, this]
  rfl
theorem place_no {w : World} {p : Nat} {F : Nat → Prop} {l : List En} (h : HQ w p F l) {k : Int} (hk : ∀ x ∈ l, x.1 ≠ k) :
    Calls Try.prog 43 #[.pointer (some ⟨p, 0, none⟩), .int .i64 k] w fun e w' => e = .returned (.tuple #[.int .i64 0, .bool false]) ∧ w = w' := by
  obtain ⟨bm, sv, h, hF⟩ := h
  obtain ⟨f, hf, hp⟩ := h.places
  refine (rplace_any h.root hf k).mono fun e w' ⟨he, hw⟩ => ⟨?_, hw⟩
  have : f k = none := by
    cases e : f k with
    | none => rfl
    | some i =>
      obtain ⟨h1, h2⟩ := (hp k i).1 e
      rw [atE_get h1] at h2
      exact absurd h2 (hk _ (List.getElem_mem h1))
  rw [he, this]
  rfl

theorem qlen_any {w : World} {q : Nat} {F : Nat → Prop} {s : List En} (h : QH w q F s) :
    Calls Try.prog 15 #[.pointer (some ⟨q, 0, none⟩)] w fun e w' => e = .returned (.int .i64 s.length) ∧ w = w' := by
  obtain ⟨p, Fr, l, h1, h2, h3, h4, h5⟩ := h
  have c0 : w.cell? ⟨q, 0, none⟩ = some (.iface 46 (.pointer (some ⟨p, 0, none⟩))) := (h1.cell 0).trans rfl
  rw [← h4.perm.length_eq]
  have H := Lib.hid h2
  clear h1 h2 h3 h4 h5
  go_enter Try.func15, Try.ntmps15
  go_wp2_with fail
  refine (len_q H.out).mono ?_
  rintro x w2 ⟨rfl, rfl⟩
  go_wp2_with fail
  go_ret
  exact ⟨rfl, rfl⟩
theorem qlen_nil (w : World) :
    Calls Try.prog 15 #[.pointer none] w fun e w' => e = .returned (.int .i64 0) ∧ w = w' := by
  go_enter Try.func15, Try.ntmps15
  go_wp2
  go_ret
  exact ⟨rfl, rfl⟩

theorem upon_set2 (w : World) (g a b : Nat) (x y : Value) : Upon (fun k => k = g) w ((w.setCell ⟨g, a, none⟩ x).setCell ⟨g, b, none⟩ y) := by
  have h1 := Upon.setCell (S := fun k => k = g) (w := w) ⟨g, a, none⟩ x rfl
  have h2 := Upon.setCell (S := fun k => k = g) (w := w.setCell ⟨g, a, none⟩ x) ⟨g, b, none⟩ y rfl
  exact h1.trans h2 fun _ _ h => h

section
variable {w : World} {q p : Nat} {Fr : Nat → Prop} {l : List En} (hr : rowAt w q 54 [.iface 46 (.pointer (some ⟨p, 0, none⟩))]) (h : HQ w p Fr l)
include hr h
theorem find_yes {i : Nat} (hi : i < l.length) {k : Int} (hk : (atE l i).1 = k) :
    Calls Try.prog 16 #[.pointer (some ⟨q, 0, none⟩), .int .i64 k] w fun e w' => e = .returned (.tuple #[.int .i64 i, .bool true]) ∧ w = w' := by
  have c0 : w.cell? ⟨q, 0, none⟩ = some (.iface 46 (.pointer (some ⟨p, 0, none⟩))) := (hr.cell 0).trans rfl
  have HP := Lib.hid (place_yes h hi hk)
  clear hr h hk
  go_enter Try.func16, Try.ntmps16
  go_wp2_with fail
  refine (HP.out).mono ?_
  rintro x w2 ⟨rfl, rfl⟩
  go_wp2_with fail
  go_ret2
  exact ⟨rfl, rfl⟩
theorem find_no {k : Int} (hk : ∀ x ∈ l, x.1 ≠ k) :
    Calls Try.prog 16 #[.pointer (some ⟨q, 0, none⟩), .int .i64 k] w fun e w' => e = .returned (.tuple #[.int .i64 0, .bool false]) ∧ w = w' := by
  have c0 : w.cell? ⟨q, 0, none⟩ = some (.iface 46 (.pointer (some ⟨p, 0, none⟩))) := (hr.cell 0).trans rfl
  have HP := Lib.hid (place_no h hk)
  clear hr h hk
  go_enter Try.func16, Try.ntmps16
  go_wp2_with fail
  refine (HP.out).mono ?_
  rintro x w2 ⟨rfl, rfl⟩
  go_wp2_with fail
  go_ret2
  exact ⟨rfl, rfl⟩

def TakePost (p : Nat) (F : Nat → Prop) (l : List En) (e : En) (w : World) (x : Ending) (w' : World) : Prop :=
  x = .returned (.agg #[.int .i64 e.1, .int .i64 e.2]) ∧ ∃ l', HQ w' p F l' ∧ (l' ++ [e]).Perm l ∧ HeapF (atE l') l'.length ∧ Upon F w w'

theorem take_any (hh : HeapF (atE l) l.length) {i : Nat} (hi : i < l.length) {e : En} (he : atE l i = e) :
    Calls Try.prog 18 #[.pointer (some ⟨q, 0, none⟩), .int .i64 i] w (TakePost p Fr l e w) := by
  obtain ⟨W, hW⟩ : ∃ W, w.alloc (.cells #[.int .i64 0, .int .i64 0] 59) = W := ⟨_, rfl⟩
  have huW : Upon (fun _ => False) w W := by rw [← hW]; exact Upon.alloc _ _ _
  have hqW := h.upon huW fun _ _ h => h
  have hrW := hr.upon huW fun h => h
  have c0 : W.cell? ⟨q, 0, none⟩ = some (.iface 46 (.pointer (some ⟨p, 0, none⟩))) := (hrW.cell 0).trans rfl
  have ceW : rowAt W w.heap.size 59 [.int .i64 0, .int .i64 0] := by rw [← hW]; exact rowAt.made _ _ _
  have hlt := h.lt
  have ta := assert_entry e.1 e.2
  have HP := Lib.hid (hremove_any hqW hh hi he)
  have HL := Lib.hid hlt
  have HU := Lib.hid huW
  have HC := Lib.hid ceW
  clear hr h hh he huW hqW hrW ceW hlt
  go_enter Try.func18, Try.ntmps18
  go_wp2_with fail
  refine (HP.out).mono ?_
  rintro x w1 ⟨rfl, l', hq1, hp1, hh1, hu1⟩
  have r1 := HC.out.upon hu1 fun hF => by have := HL.out _ hF; omega
  have f0 := r1.free 0
  have f1 := r1.free 1
  have d0 : w1.cell? ⟨w.heap.size, 0, none⟩ = some (.int .i64 0) := (r1.cell 0).trans rfl
  have d1 : w1.cell? ⟨w.heap.size, 1, none⟩ = some (.int .i64 0) := (r1.cell 1).trans rfl
  have HR := Lib.hid r1
  have HQ1 := Lib.hid hq1
  have HP1 := Lib.hid hp1
  have HH1 := Lib.hid hh1
  have HU1 := Lib.hid hu1
  clear r1 hq1 hp1 hh1 hu1
  go_wp2_with fail
  refine bodyPost_ret (v := .agg #[.int .i64 e.1, .int .i64 e.2]) (by simp [results, Try.results18, go_sem, d0, d1]) rfl ⟨rfl, l', ?_, HP1.out, HH1.out, ?_⟩
  · exact HQ1.out.upon (upon_set2 w1 w.heap.size _ _ _ _) fun k hk e => by have := HL.out k hk; omega
  · have x : Upon Fr w w1 := (HU.out.mono (T := Fr) fun _ _ h => h.elim).trans HU1.out fun _ _ h => h
    exact x.trans (upon_set2 w1 w.heap.size _ _ _ _) fun k hk e => by omega
end

/-! ## Push, Pop, Drop -/

theorem qpush_there {w : World} {q : Nat} {F : Nat → Prop} {s : List En} (h : QH w q F s) {k : Int} (hk : ∃ x ∈ s, x.1 = k) (r : Int) :
    Calls Try.prog 8 #[.pointer (some ⟨q, 0, none⟩), .int .i64 k, .int .i64 r] w fun e w' => e = .returned (.bool false) ∧ w = w' := by
  obtain ⟨p, Fr, l, h1, h2, h3, h4, h5⟩ := h
  obtain ⟨x, hx, hxk⟩ := hk
  obtain ⟨i, hi, rfl⟩ := List.getElem_of_mem (h4.perm.mem_iff.2 hx)
  have HF := Lib.hid (find_yes h1 h2 hi (k := k) (by rw [atE_get hi]; exact hxk))
  clear h1 h2 h3 h4 h5 hx hxk
  go_enter Try.func8, Try.ntmps8
  go_wp2_with fail
  refine (HF.out).mono ?_
  rintro x w2 ⟨rfl, rfl⟩
  go_wp2_with fail
  go_ret
  exact ⟨rfl, rfl⟩

theorem qpush_new {w : World} {q : Nat} {F : Nat → Prop} {s : List En} (h : QH w q F s) (e : En) (hk : ∀ x ∈ s, x.1 ≠ e.1) (hl : s.length < 100000) :
    Calls Try.prog 8 #[.pointer (some ⟨q, 0, none⟩), .int .i64 e.1, .int .i64 e.2] w fun x w' => x = .returned (.bool true) ∧ ∃ G, QH w' q G (insE e s) ∧ StepQ F G w w' := by
  obtain ⟨p, Fr, l, h1, h2, h3, h4, h5⟩ := h
  have hkl : ∀ x ∈ l, x.1 ≠ e.1 := fun x hx => hk x (h4.perm.mem_iff.1 hx)
  have c0 : w.cell? ⟨q, 0, none⟩ = some (.iface 46 (.pointer (some ⟨p, 0, none⟩))) := (h1.cell 0).trans rfl
  have HF := Lib.hid (find_no h1 h2 hkl)
  have HP := Lib.hid (hpush_any h2 h4.heap e hkl (by rw [h4.perm.length_eq]; exact hl))
  have H1 := Lib.hid h1
  have H2 := Lib.hid h2
  have H3 := Lib.hid h3
  have H4 := Lib.hid h4
  have H5 := Lib.hid h5
  have HK := Lib.hid hk
  clear h1 h2 h3 h4 h5 hk hkl
  go_enter Try.func8, Try.ntmps8
  go_wp2_with fail
  refine (HF.out).mono ?_
  rintro x w2 ⟨rfl, rfl⟩
  go_wp2_with fail
  refine (HP.out).mono ?_
  rintro x w2 ⟨rfl, G, l', hq, hp, hh, hs⟩
  have HQ := Lib.hid hq
  have HPP := Lib.hid hp
  have HHH := Lib.hid hh
  have HS := Lib.hid hs
  clear hq hp hh hs
  go_wp2_with fail
  go_ret
  have hql := H1.out.lt
  refine ⟨rfl, fun k => k = q ∨ G k, ⟨p, G, l', H1.out.upon HS.out.upon H3.out, HQ.out, fun hG => ?_, H4.out.push HK.out HPP.out HHH.out, fun _ => Iff.rfl⟩, HS.out.upon.mono fun k _ hk => (H5.out k).2 (.inr hk), ?_⟩
  · rcases HS.out.foot _ hG with h | h
    · exact H3.out h
    · omega
  · rintro k (rfl | hk)
    · exact .inl ((H5.out _).2 (.inl rfl))
    · exact (HS.out.foot k hk).imp_left fun h => (H5.out k).2 (.inr h)

theorem qpush_nil (w : World) (k r : Int) :
    Calls Try.prog 8 #[.pointer none, .int .i64 k, .int .i64 r] w fun e w' => e = .returned (.bool false) ∧ w = w' := by
  go_enter Try.func8, Try.ntmps8
  go_wp2
  go_ret
  exact ⟨rfl, rfl⟩

theorem qpop_none {w : World} {q : Nat} {F : Nat → Prop} (h : QH w q F []) :
    Calls Try.prog 10 #[.pointer (some ⟨q, 0, none⟩)] w fun e w' => e = .returned (.tuple #[.int .i64 0, .int .i64 0, .bool false]) ∧ w = w' := by
  have HL := Lib.hid (qlen_any h)
  clear h
  go_enter Try.func10, Try.ntmps10
  go_wp2_with fail
  refine (HL.out).mono ?_
  rintro x w2 ⟨rfl, rfl⟩
  go_wp2_with fail
  go_ret3
  exact ⟨rfl, rfl⟩
theorem qpop_nil (w : World) :
    Calls Try.prog 10 #[.pointer none] w fun e w' => e = .returned (.tuple #[.int .i64 0, .int .i64 0, .bool false]) ∧ w = w' := by
  go_enter Try.func10, Try.ntmps10
  go_wp2
  go_ret3
  exact ⟨rfl, rfl⟩

theorem qpop_some {w : World} {q : Nat} {F : Nat → Prop} {e : En} {t : List En} (h : QH w q F (e :: t)) :
    Calls Try.prog 10 #[.pointer (some ⟨q, 0, none⟩)] w fun x w' => x = .returned (.tuple #[.int .i64 e.1, .int .i64 e.2, .bool true]) ∧ QH w' q F t ∧ StepQ F F w w' := by
  have HL := Lib.hid (qlen_any h)
  have hlt := h.lt
  obtain ⟨p, Fr, l, h1, h2, h3, h4, h5⟩ := h
  obtain ⟨hl0, hroot⟩ := h4.root
  have HT := Lib.hid (take_any h1 h2 h4.heap hl0 hroot)
  have f1 : (((e :: t).length : Int) == 0) = false := by simp; omega
  have H1 := Lib.hid h1
  have H3 := Lib.hid h3
  have H4 := Lib.hid h4
  have H5 := Lib.hid h5
  have HLT := Lib.hid hlt
  clear h1 h2 h3 h4 h5 hroot hlt
  generalize hn : (e :: t).length = n at *
  clear hn
  go_enter Try.func10, Try.ntmps10
  go_wp2_with fail
  refine (HL.out).mono ?_
  rintro x w2 ⟨rfl, rfl⟩
  go_wp2_with fail
  refine (HT.out).mono ?_
  rintro x w1 ⟨rfl, l', hq, hp, hh, hu⟩
  have HQ := Lib.hid hq
  have HPP := Lib.hid hp
  have HHH := Lib.hid hh
  have HU := Lib.hid hu
  clear hq hp hh hu
  go_wp2_with fail
  go_quiet (fail)
  go_wp2_with fail
  go_ret3
  have hx : ∀ m, Upon (fun _ => False) w1 ((w1.alloc (.cells #[.int .i64 e.1, .int .i64 e.2] 59)).drewN m) := fun m => (Upon.alloc (fun _ => False) _ _).trans (Upon.drewN (fun _ => False) _ m) fun _ _ h => h
  refine ⟨rfl, ?_, ?_⟩
  · exact ⟨p, Fr, l', (H1.out.upon HU.out H3.out).upon (hx _) fun h => h, HQ.out.upon (hx _) fun _ _ h => h, H3.out, H4.out.pop HPP.out HHH.out, H5.out⟩
  · exact StepQ.of_upon ((HU.out.mono fun k _ hk => (H5.out k).2 (.inr hk)).trans (hx _) fun _ _ (h : False) => h.elim)

theorem qdrop_no {w : World} {q : Nat} {F : Nat → Prop} {s : List En} (h : QH w q F s) {k : Int} (hk : ∀ x ∈ s, x.1 ≠ k) :
    Calls Try.prog 11 #[.pointer (some ⟨q, 0, none⟩), .int .i64 k] w fun e w' => e = .returned (.bool false) ∧ w = w' := by
  obtain ⟨p, Fr, l, h1, h2, h3, h4, h5⟩ := h
  have HF := Lib.hid (find_no h1 h2 (k := k) fun x hx => hk x (h4.perm.mem_iff.1 hx))
  clear h1 h2 h3 h4 h5 hk
  go_enter Try.func11, Try.ntmps11
  go_wp2_with fail
  refine (HF.out).mono ?_
  rintro x w2 ⟨rfl, rfl⟩
  go_wp2_with fail
  go_ret
  exact ⟨rfl, rfl⟩
theorem qdrop_yes {w : World} {q : Nat} {F : Nat → Prop} {s : List En} (h : QH w q F s) {k : Int} (hk : ∃ x ∈ s, x.1 = k) :
    Calls Try.prog 11 #[.pointer (some ⟨q, 0, none⟩), .int .i64 k] w fun e w' => e = .returned (.bool true) ∧ QH w' q F (s.filter fun x => decide (x.1 ≠ k)) ∧ StepQ F F w w' := by
  obtain ⟨p, Fr, l, h1, h2, h3, h4, h5⟩ := h
  obtain ⟨x, hx, hxk⟩ := hk
  obtain ⟨i, hi, rfl⟩ := List.getElem_of_mem (h4.perm.mem_iff.2 hx)
  have hik : (atE l i).1 = k := by rw [atE_get hi]; exact hxk
  have HF := Lib.hid (find_yes h1 h2 hi hik)
  have HT := Lib.hid (take_any h1 h2 h4.heap hi rfl)
  have HN := Lib.hid h2.nodup
  have H1 := Lib.hid h1
  have H3 := Lib.hid h3
  have H4 := Lib.hid h4
  have H5 := Lib.hid h5
  have HK := Lib.hid hik
  clear h1 h2 h3 h4 h5 hik hx hxk
  go_enter Try.func11, Try.ntmps11
  go_wp2_with fail
  refine (HF.out).mono ?_
  rintro x w2 ⟨rfl, rfl⟩
  go_wp2_with fail
  refine (HT.out).mono ?_
  rintro x w1 ⟨rfl, l', hq, hp, hh, hu⟩
  have HQ := Lib.hid hq
  have HPP := Lib.hid hp
  have HHH := Lib.hid hh
  have HU := Lib.hid hu
  clear hq hp hh hu
  go_wp2_with fail
  go_ret
  have hd := H4.out.drop HN.out HPP.out HHH.out
  rw [HK.out] at hd
  exact ⟨rfl, ⟨p, Fr, l', H1.out.upon HU.out H3.out, HQ.out, H3.out, hd, H5.out⟩, StepQ.of_upon (HU.out.mono fun k _ hk => (H5.out k).2 (.inr hk))⟩

end Go.Proofs.Ytgcmkhbpkmfpkaa
