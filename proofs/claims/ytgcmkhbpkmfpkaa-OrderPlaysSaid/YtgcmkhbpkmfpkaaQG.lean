/-
  Push of a row.
  Conditions: as stated.
-/
import Derived.Test.YtgcmkhbpkmfpkaaQE
import Derived.Test.YtgcmkhbpkmfpkaaApp
import Derived.Outline
namespace Go.Proofs.Ytgcmkhbpkmfpkaa
open Go.ChangeShapes Go.WideShapes Go.ChangeAt Go.RowKit
set_option linter.unusedVariables false
set_option linter.unusedSimpArgs false
set_option maxRecDepth 100000

theorem assert_entry (k r : Int) (w : World) : (Instr.typeAssert (.iface 59 (.agg #[.int .i64 k, .int .i64 r])) 20 59 false).run Try.prog w = .ok (.agg #[.int .i64 k, .int .i64 r]) w := by kernel_rfl

theorem info_entry : (Try.prog.info? 59).map (fun i => (i.zero, i.size, i.bytes)) = some (some (.agg #[.int .i64 0, .int .i64 0]), 2, 16) := by kernel_rfl
theorem under_ents : Try.prog.underlying 48 = some (.slice 59) := by kernel_rfl
theorem src_row {w : World} {b : Nat} {T : TypeId} {xs : List Value} (h : rowAt w b T xs) (m : Nat) : m = 0 ∨ ∃ ad, (some (⟨b, 0, none⟩ : Addr)) = some ad ∧ ∀ j u, xs[j]? = some u → w.cell? (ad.add j) = some u := by
  refine .inr ⟨_, rfl, fun j u hj => ?_⟩
  rw [Addr.add_lit, h.cell, Nat.zero_add]
  exact hj
theorem oneCell_two (k r : Int) : ∀ v ∈ [Value.int .i64 k, Value.int .i64 r], v.oneCell' = true := by
  intro v hv
  simp only [List.mem_cons, List.not_mem_nil, or_false] at hv
  rcases hv with rfl | rfl <;> rfl
theorem grown_drew {w w' : World} {X : Obj} {row : Option Nat} (h : (w.alloc X).drew.grownBy w' row) : Upon (fun g => row = some g) w w' := by
  have h1 : Upon (fun g => row = some g) w (w.alloc X).drew := ⟨rfl, rfl, rfl, by simp, fun k hk _ => Below.heap_alloc _ _ _ hk⟩
  exact h1.trans (Upon.grown h fun k hk => hk) fun _ _ h => h

theorem push_cell {w1 w' : World} {p bm : Nat} {sv : Value} {X : Obj} (hr : rowAt w1 p 50 [sv, .map (some bm)]) (hown : ∀ g, sv.ownBlock = some g → g ≠ p ∧ g ≠ bm) (hg : (w1.alloc X).drew.grownBy w' sv.ownBlock) :
    w'.cell? ⟨p, 0, none⟩ = some sv ∧ w'.frozen? ⟨p, 0, none⟩ = false := by
  have h := hr.upon (grown_drew hg) fun e => (hown p e).1 rfl
  exact ⟨(h.cell 0).trans rfl, h.free 0⟩

theorem push_end {w1 w' : World} {p bm : Nat} {sv : Value} {l : List En} {f : Int → Option Nat} {X : Obj} {a2 : Option Addr} {n2 c2 : Nat} {k r : Int} (hr : rowAt w1 p 50 [sv, .map (some bm)])
    (hm : mapAt w1 bm (fun k => (f k).map fun i : Nat => Value.int .i64 i)) (hpl : Places f (l ++ [(k, r)])) (hp : p ≠ bm) (hown : ∀ g, sv.ownBlock = some g → g ≠ p ∧ g ≠ bm) (hl : l.length < 100000)
    (ho : w'.ownsRow 0 59 2 (.slice a2 n2 c2) (l.length + 1) (pairsL l ++ [.int .i64 k, .int .i64 r])) (hg : (w1.alloc X).drew.grownBy w' sv.ownBlock)
    (hb : (Value.slice a2 n2 c2).ownBlock = sv.ownBlock ∨ (Value.slice a2 n2 c2).ownBlock = some (w1.alloc X).drew.heap.size) :
    RowIn (w'.setCell ⟨p, 0, none⟩ (.slice a2 n2 c2)) p bm (.slice a2 n2 c2) (l ++ [(k, r)]) ∧ Upon (footR p bm sv) w1 (w'.setCell ⟨p, 0, none⟩ (.slice a2 n2 c2)) ∧ ∀ g, (Value.slice a2 n2 c2).ownBlock = some g → sv.ownBlock = some g ∨ w1.heap.size ≤ g := by
  have hu := grown_drew hg
  have hu2 : Upon (fun k => k = p) w' (w'.setCell ⟨p, 0, none⟩ (.slice a2 n2 c2)) := Upon.setCell _ _ rfl
  have hpl1 := hr.lt
  have hml1 := hm.lt
  have hsz : (w1.alloc X).drew.heap.size = w1.heap.size + 1 := by show (w1.alloc X).heap.size = _; simp
  have hob : ∀ g, (Value.slice a2 n2 c2).ownBlock = some g → g ≠ p ∧ g ≠ bm := fun g h => by
    rcases hb with hb | hb
    · exact hown g (hb ▸ h)
    · rw [hb] at h
      have := Option.some.inj h
      omega
  refine ⟨⟨?_, ?_, ⟨f, ?_, hpl⟩, hp, hob, by simp; omega⟩, ?_, fun g h => ?_⟩
  · have := (hr.upon hu fun e => (hown p e).1 rfl).set 0 (.slice a2 n2 c2)
    exact this
  · have e1 : (l ++ [(k, r)]).length = l.length + 1 := by simp
    have e2 : pairsL (l ++ [(k, r)]) = pairsL l ++ [.int .i64 k, .int .i64 r] := by simp [pairsL]
    rw [e1, e2]
    exact owns_upon ho hu2 fun g h => (hob g h).1
  · exact (hm.upon hu fun e => (hown bm e).2 rfl).upon hu2 (Ne.symm hp)
  · exact (hu.mono (T := footR p bm sv) fun k _ hk => .inr (.inr hk)).trans (hu2.mono (T := footR p bm sv) fun k _ hk => .inl hk) fun _ _ h => h
  · rcases hb with hb | hb
    · exact .inl (hb ▸ h)
    · rw [hb] at h
      have := Option.some.inj h
      exact .inr (by omega)

set_option maxHeartbeats 6400000 in
theorem rpush_any {w : World} {p bm : Nat} {sv : Value} {l : List En} (h : RowIn w p bm sv l) (e : En) (hk : ∀ x ∈ l, x.1 ≠ e.1) (hl : l.length < 100000) :
    Calls Try.prog 41 #[.pointer (some ⟨p, 0, none⟩), .iface 59 (.agg #[.int .i64 e.1, .int .i64 e.2])] w fun x w' => x = .returned (.tuple #[]) ∧ ∃ sv', RowIn w' p bm sv' (l ++ [e]) ∧ Upon (footR p bm sv) w w' ∧ ∀ g, sv'.ownBlock = some g → sv.ownBlock = some g ∨ w.heap.size ≤ g := by
  obtain ⟨k, r⟩ := e
  show Calls _ _ #[_, .iface _ (.agg #[.int .i64 k, .int .i64 r])] _ _
  have hk : ∀ x ∈ l, x.1 ≠ k := hk
  obtain ⟨a, c, rfl⟩ := owns_slice h.ents
  obtain ⟨i0, hi, hz0, hz1, hz2⟩ := info_parts info_entry
  obtain ⟨f, hf, hpl⟩ := h.places
  have hfk : f k = none := by
    cases e : f k with
    | none => rfl
    | some i =>
      obtain ⟨h1, h2⟩ := (hpl k i).1 e
      rw [atE_get h1] at h2
      exact absurd h2 (hk _ (List.getElem_mem h1))
  have hps := hpl.push (k, r) hfk
  obtain ⟨W, hW⟩ : ∃ W, w.alloc (.cells #[.int .i64 k, .int .i64 r] 59) = W := ⟨_, rfl⟩
  have huW : Upon (fun _ => False) w W := by rw [← hW]; exact Upon.alloc _ _ _
  have hrW := h.root.upon huW fun h => h
  have hmW := hf.upon huW fun h => h
  have hoW := owns_upon h.ents huW fun _ _ h => h
  have c0 : W.cell? ⟨p, 0, none⟩ = some (.slice a l.length c) := (hrW.cell 0).trans rfl
  have c1 : W.cell? ⟨p, 1, none⟩ = some (.map (some bm)) := (hrW.cell 1).trans rfl
  have ce : rowAt W w.heap.size 59 [.int .i64 k, .int .i64 r] := by rw [← hW]; exact rowAt.made _ _ _
  have c2 : W.cell? ⟨w.heap.size, 0, none⟩ = some (.int .i64 k) := (ce.cell 0).trans rfl
  obtain ⟨w1, hrun, hm1, hu1⟩ := run_mapUpdate_int (w := W.drew) under_mapi under_int hmW k (.int .i64 (l.length : Int))
  have hml := hf.lt
  have hr1 : rowAt w1 p 50 [.slice a l.length c, .map (some bm)] := rowAt.upon (w := W.drew) hrW hu1 h.pm
  have ho1 : w1.ownsRow 0 59 2 (.slice a l.length c) l.length (pairsL l) := owns_upon (w := W.drew) hoW hu1 fun g hg => (h.own g hg).2
  have ce1 : rowAt w1 w.heap.size 59 [.int .i64 k, .int .i64 r] := rowAt.upon (w := W.drew) ce hu1 (by omega)
  have hm1' := hm1.congr (g := fun j => (if j = k then some l.length else f j).map fun i : Nat => Value.int .i64 i) fun j => by
    by_cases hj : j = k
    · subst hj; simp
    · simp [hj]
  have HU1 : Hid (Upon (footR p bm (.slice a l.length c)) w w1) := by
    have x : Upon (footR p bm (.slice a l.length c)) w W := huW.mono fun _ _ h => h.elim
    have y : Upon (footR p bm (.slice a l.length c)) W w1 := ⟨hu1.os, hu1.tape, hu1.output, hu1.size, fun k hk hs => hu1.block k hk fun e => hs (.inr (.inl e))⟩
    exact x.trans y fun _ _ h => h
  have g0 : w1.cell? ⟨p, 0, none⟩ = some (.slice a l.length c) := (hr1.cell 0).trans rfl
  have g2 : w1.cell? ⟨w.heap.size, 0, none⟩ = some (.int .i64 k) := (ce1.cell 0).trans rfl
  have g3 : w1.cell? ⟨w.heap.size, 1, none⟩ = some (.int .i64 r) := (ce1.cell 1).trans rfl
  have HOWN : Hid ((w1.alloc (.cells #[.int .i64 k, .int .i64 r] 59)).drew.ownsRow 0 59 2 (.slice a l.length c) l.length (pairsL l)) := by
    have h : (w1.alloc (.cells #[.int .i64 k, .int .i64 r] 59)).ownsRow 0 59 2 (.slice a l.length c) l.length (pairsL l) := owns_upon ho1 (Upon.alloc (fun _ => False) _ _) fun _ _ h => h
    exact h
  have HROW : Hid (rowAt (w1.alloc (.cells #[.int .i64 k, .int .i64 r] 59)).drew w1.heap.size 59 [.int .i64 k, .int .i64 r]) := rowAt.made _ _ _
  have g4 : (w1.alloc (.cells #[.int .i64 k, .int .i64 r] 59)).cell? ⟨p, 0, none⟩ = some (.slice a l.length c) := ((hr1.alloc _).cell 0).trans rfl
  have HR1 := Lib.hid hr1
  have HM1 := Lib.hid hm1'
  have HPS := Lib.hid hps
  have hpm := h.pm
  have HO := Lib.hid h.own
  have ta := assert_entry k r
  have hsz0 : 0 ≤ w1.heap.size := Nat.zero_le _
  clear h hf hpl hfk hps huW hrW hmW hoW ce hm1 hu1 hr1 ho1 ce1 hm1' hk hml
  go_enter Try.func41, Try.ntmps41
  go_wp2_with fail
  clear hW
  refine wp_region_still_tail 11 (by kernel_rfl) (by kernel_rfl) ?_
  simp only [List.take_succ_cons, List.take_zero, List.drop_succ_cons, List.drop_zero]
  iterate 11 still_step
  refine wpStill_nil ?_
  change wpList _ _ _ _ _ W.drew
  go_wp2_with fail
  clear c0 c1 c2 hrun
  go_region_law (refine step_append_w (by rfl) _ _ _ (by rfl) 0 59 i0 (.agg #[.int .i64 0, .int .i64 0]) 2 16 under_ents hi hz0 hz1 hz2 (by rfl) (by decide) (.slice a l.length c) l.length (pairsL l) (by rfl) HOWN.out _ 1 1 [.int .i64 k, .int .i64 r] (by rfl) (by rfl) (src_row HROW.out 1) (oneCell_two k r) ?c1 ?c2 ?c3 ?_; (case c1 => simp only [maxLen]; omega); (case c2 => omega); (case c3 => exact Nat.zero_le _); intro v' w2 hown2 hgrow2 hb2; obtain ⟨a2, c2, rfl⟩ := owns_slice hown2; obtain ⟨d0, d1⟩ := push_cell HR1.out HO.out hgrow2; have HOW2 := Lib.hid hown2; have HGR2 := Lib.hid hgrow2; have HB2 := Lib.hid hb2; clear hown2 hgrow2 hb2)
  all_goals
    go_wp2
    go_end0
    obtain ⟨x1, x2, x3⟩ := push_end HR1.out HM1.out HPS.out hpm HO.out hl HOW2.out HGR2.out HB2.out
    exact ⟨rfl, _, x1, HU1.out.trans x2 fun _ _ h => h, fun g hg => (x3 g hg).imp_right fun h => Nat.le_trans HU1.out.size h⟩

end Go.Proofs.Ytgcmkhbpkmfpkaa
