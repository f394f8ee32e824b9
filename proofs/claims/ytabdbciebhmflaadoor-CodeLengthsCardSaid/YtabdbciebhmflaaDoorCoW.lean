/-
  Package code: the writer.
  Conditions: as each states.
-/
import Derived.Test.YtabdbciebhmflaaDoorCoJ
import Derived.Test.YtabdbciebhmflaaDoorApp
import Derived.Outline
import Derived.IntWalk
import Derived.RegionTactic
namespace Go.Proofs.YtabdbciebhmflaaDoor
open Go.ChangeShapes Go.WideShapes Go.ChangeAt Go.RowKit
set_option linter.unusedVariables false
set_option linter.unusedSimpArgs false
set_option maxRecDepth 100000

abbrev bytesL (xs : List Int) : List Value := xs.map (Value.int .u8)
theorem info_byte : (Tryd.prog.info? 5).map (fun i => (i.zero, i.size, i.bytes)) = some (some (.int .u8 0), 1, 1) := by kernel_rfl
theorem under_bytes : Tryd.prog.underlying 27 = some (.slice 5) := by kernel_rfl

/-- Blocks of K stay. -/
abbrev Stays (K : Nat → Prop) (w w' : World) : Prop := Upon (fun g => ¬ K g) w w'
theorem Stays.trans {K : Nat → Prop} {a b c : World} (h : Stays K a b) (k : Stays K b c) : Stays K a c := Upon.trans h k fun _ _ h => h
theorem Stays.less {K K' : Nat → Prop} {a b : World} (h : Stays K a b) (hK : ∀ g, K' g → K g) : Stays K' a b := Upon.mono h fun g _ hn hk => hn (hK g hk)
theorem Stays.of_below {K : Nat → Prop} {w w' : World} (h : Below w.heap.size w w') : Stays K w w' := Upon.of_below h
theorem Stays.below {K : Nat → Prop} {w w' : World} (h : Stays K w w') (hK : ∀ g, g < w.heap.size → K g) : Below w.heap.size w w' :=
  ⟨h.os, h.tape, h.output, h.size, fun k hk => h.block k hk fun hn => hn (hK k hk)⟩
theorem Stays.cell {K : Nat → Prop} {w w' : World} (h : Stays K w w') {g o : Nat} (hg : g < w.heap.size) (hK : K g) : w'.cell? ⟨g, o, none⟩ = w.cell? ⟨g, o, none⟩ := cell_upon h hg fun hn => hn hK

/-- A writer at p that has written bs; the blocks of K are none of its. -/
structure WrAt (K : Nat → Prop) (w : World) (p : Nat) (v : Value) (bs : List Int) : Prop where
  root : rowAt w p 56 [v]
  own : w.ownsRow 0 5 1 v bs.length (bytesL bs)
  off : ∀ g, v.ownBlock = some g → g ≠ p
  keep : ∀ g, K g → g < w.heap.size ∧ g ≠ p ∧ v.ownBlock ≠ some g

theorem WrAt.below {K : Nat → Prop} {w w' : World} {p : Nat} {v : Value} {bs : List Int} (h : WrAt K w p v bs) (hb : Below w.heap.size w w') : WrAt K w' p v bs :=
  ⟨h.root.below hb h.root.lt, owns_upon h.own (upon_of_below hb) fun _ _ t => t, h.off, fun g hg => ⟨Nat.lt_of_lt_of_le (h.keep g hg).1 hb.size, (h.keep g hg).2⟩⟩
theorem WrAt.less {K K' : Nat → Prop} {w : World} {p : Nat} {v : Value} {bs : List Int} (h : WrAt K w p v bs) (hK : ∀ g, K' g → K g) : WrAt K' w p v bs :=
  ⟨h.root, h.own, h.off, fun g hg => h.keep g (hK g hg)⟩
theorem WrAt.lt_own {K : Nat → Prop} {w : World} {p : Nat} {v : Value} {bs : List Int} (h : WrAt K w p v bs) {g : Nat} (hg : v.ownBlock = some g) : g < w.heap.size := by
  rcases owns_parts h.own with ⟨rfl, _, _⟩ | ⟨g', cap, rest, rfl, _, hr, _⟩
  · cases hg
  · cases hg; exact hr.lt
/-- A block that was just made joins those that stay. -/
theorem WrAt.more {K : Nat → Prop} {w w' : World} {p : Nat} {v : Value} {bs : List Int} (h : WrAt K w p v bs) (hb : Below w.heap.size w w') {b : Nat} (h1 : w.heap.size ≤ b) (h2 : b < w'.heap.size) : WrAt (fun g => K g ∨ g = b) w' p v bs := by
  have h' := h.below hb
  refine ⟨h'.root, h'.own, h'.off, fun g hg => ?_⟩
  rcases hg with hg | rfl
  · exact h'.keep g hg
  · refine ⟨h2, fun e => ?_, fun e => ?_⟩
    · have := h.root.lt; omega
    · have := h.lt_own e; omega

theorem src_row {w : World} {b : Nat} {T : TypeId} {xs : List Value} (h : rowAt w b T xs) (m : Nat) : m = 0 ∨ ∃ ad, (some (⟨b, 0, none⟩ : Addr)) = some ad ∧ ∀ j u, xs[j]? = some u → w.cell? (ad.add j) = some u := by
  refine .inr ⟨_, rfl, fun j u hj => ?_⟩
  rw [Addr.add_lit, h.cell, Nat.zero_add]
  exact hj
theorem oneCell_one (k : IntKind) (r : Int) : ∀ v ∈ [Value.int k r], v.oneCell' = true := by
  intro v hv
  simp only [List.mem_cons, List.not_mem_nil, or_false] at hv
  subst hv; rfl
theorem grown_drew {w w' : World} {X : Obj} {row : Option Nat} (h : (w.alloc X).drew.grownBy w' row) : Upon (fun g => row = some g) w w' := by
  have h1 : Upon (fun g => row = some g) w (w.alloc X).drew := ⟨rfl, rfl, rfl, by simp, fun k hk _ => Below.heap_alloc _ _ _ hk⟩
  exact h1.trans (Upon.grown h fun k hk => hk) fun _ _ h => h

/-- Behind an append of ys onto what was written. -/
theorem WrAt.cell {K : Nat → Prop} {w w' : World} {p : Nat} {v : Value} {bs : List Int} (h : WrAt K w p v bs) (hg : Upon (fun g => v.ownBlock = some g) w w') : w'.cell? ⟨p, 0, none⟩ = some v ∧ w'.frozen? ⟨p, 0, none⟩ = false := by
  have r := h.root.upon hg fun e => h.off p e rfl
  exact ⟨(r.cell 0).trans rfl, r.free 0⟩
theorem WrAt.put {K : Nat → Prop} {w w' : World} {p : Nat} {v v' : Value} {bs ys : List Int} (h : WrAt K w p v bs) (hg : Upon (fun g => v.ownBlock = some g) w w')
    (ho : w'.ownsRow 0 5 1 v' (bs.length + ys.length) (bytesL bs ++ bytesL ys)) (hb : v'.ownBlock = v.ownBlock ∨ ∃ g, v'.ownBlock = some g ∧ w.heap.size ≤ g) :
    WrAt K (w'.setCell ⟨p, 0, none⟩ v') p v' (bs ++ ys) ∧ Stays K w (w'.setCell ⟨p, 0, none⟩ v') := by
  have hp := h.root.lt
  have off : ∀ g, v'.ownBlock = some g → g ≠ p := fun g e => by
    rcases hb with hb | ⟨g', hb, hg'⟩
    · exact h.off g (hb ▸ e)
    · rw [hb] at e; cases e; omega
  have hu2 : Upon (fun k => k = p) w' (w'.setCell ⟨p, 0, none⟩ v') := Upon.setCell _ _ rfl
  have hsz : w.heap.size ≤ (w'.setCell ⟨p, 0, none⟩ v').heap.size := Nat.le_trans hg.size hu2.size
  refine ⟨⟨?_, ?_, off, fun g hK => ?_⟩, ?_⟩
  · exact (h.root.upon hg fun e => h.off p e rfl).set 0 v'
  · rw [List.length_append, show bytesL (bs ++ ys) = bytesL bs ++ bytesL ys by simp]
    exact owns_upon ho hu2 off
  · obtain ⟨k1, k2, k3⟩ := h.keep g hK
    refine ⟨Nat.lt_of_lt_of_le k1 hsz, k2, fun e => ?_⟩
    rcases hb with hb | ⟨g', hb, hg'⟩
    · exact k3 (hb ▸ e)
    · rw [hb] at e; cases e; omega
  · exact (hg.mono fun k hk e hK => (h.keep k hK).2.2 e).trans (hu2.mono fun k hk e hK => (h.keep k hK).2.1 e) fun _ _ h => h

theorem byte_wrap (X n : Int) (i : Nat) (h : n / 2 ^ (8 * i) = X) : IntKind.u8.wrap X = byteAt n i := by
  subst h
  unfold byteAt
  rw [show (256 : Int) = 2 ^ 8 from rfl, ← Int.pow_mul]
  show _ % _ = _ % _
  rfl

set_option maxHeartbeats 6400000 in
theorem number_any {K : Nat → Prop} {w : World} {p : Nat} {v : Value} {bs : List Int} (h : WrAt K w p v bs) (n : Int) (k : Nat) (hk : k ≤ 8) (hl : bs.length + k ≤ 1000000000) :
    Calls Tryd.prog 33 #[.pointer (some ⟨p, 0, none⟩), .int .i64 n, .int .i64 k] w fun x w' => x = .returned (.tuple #[]) ∧ ∃ v', WrAt K w' p v' (bs ++ bytesOf n k) ∧ Stays K w w' := by
  obtain ⟨i0, hi, hz0, hz1, hz2⟩ := info_parts info_byte
  go_enter Tryd.func33, Tryd.ntmps33
  go_wp2
  go_loopw [6] (fun i wr => ∃ (j : Nat) (v' : Value) (L : List Int), i = .int .i64 ((j : Int) - 1) ∧ j ≤ k ∧ L.length + j ≤ 1000000000 ∧ Hid (bs ++ bytesOf n k = L ++ bytesOf n j) ∧ Hid (WrAt K wr p v' L) ∧ Hid (Stays K w wr)) (fun i _ => (intOf i + 1).toNat)
  case atStart => exact ⟨k, v, bs, rfl, Nat.le_refl _, hl, Lib.hid rfl, Lib.hid h, Lib.hid (Upon.refl _ _)⟩
  case round =>
    obtain ⟨j, v', L, rfl, hj, hL, HP, HW, HB⟩ := hrel
    by_cases hj0 : j = 0
    · subst hj0
      go_wp2
      go_end0
      exact ⟨rfl, v', by rw [HP.out]; show WrAt K wr p v' (L ++ []); rw [List.append_nil]; exact HW.out, HB.out⟩
    · obtain ⟨i, rfl⟩ : ∃ i, j = i + 1 := ⟨j - 1, by omega⟩
      have e1 : ((i + 1 : Nat) : Int) - 1 = i := by omega
      rw [e1]
      have hr := HW.out.root
      obtain ⟨a, c, rfl⟩ := owns_slice HW.out.own
      have g0 : wr.cell? ⟨p, 0, none⟩ = some (.slice a L.length c) := (hr.cell 0).trans rfl
      have m1 : IntKind.i64.wrap (8 * (i : Int)) = 8 * i := IntWalk.i64_in _ (by omega)
      have m2 : 0 ≤ 8 * (i : Int) := by omega
      have m3 : 8 * (i : Int) ≤ 64 := by omega
      have m4 : (8 * (i : Int)).toNat = 8 * i := by omega
      obtain ⟨X, hX⟩ : ∃ X, n / 2 ^ (8 * i) = X := ⟨_, rfl⟩
      have HX := Lib.hid (byte_wrap X n i hX)
      have HOWN : Hid ((wr.alloc (.cells #[.int .u8 (IntKind.u8.wrap X)] 5)).drew.ownsRow 0 5 1 (.slice a L.length c) L.length (bytesL L)) :=
        Lib.hid (owns_upon (w' := wr.alloc (.cells #[.int .u8 (IntKind.u8.wrap X)] 5)) HW.out.own (Upon.alloc (fun _ => False) _ _) fun _ _ h => h)
      have HROW : Hid (rowAt (wr.alloc (.cells #[.int .u8 (IntKind.u8.wrap X)] 5)).drew wr.heap.size 5 [.int .u8 (IntKind.u8.wrap X)]) := Lib.hid (rowAt.made _ _ _)
      have g1 : (wr.alloc (.cells #[.int .u8 (IntKind.u8.wrap X)] 5)).cell? ⟨p, 0, none⟩ = some (.slice a L.length c) := ((hr.alloc _).cell 0).trans rfl
      clear hr
      go_wp2
      go_region_law (refine step_append_w (by rfl) _ _ _ (by rfl) 0 5 i0 (.int .u8 0) 1 1 under_bytes hi hz0 hz1 hz2 (by rfl) (by decide) (.slice a L.length c) L.length (bytesL L) (by rfl) HOWN.out _ 1 1 [.int .u8 (IntKind.u8.wrap X)] (by rfl) (by rfl) (src_row HROW.out 1) (oneCell_one _ _) ?c1 ?c2 ?c3 ?_; (case c1 => simp only [maxLen]; omega); (case c2 => omega); (case c3 => exact Nat.zero_le _); intro v' w2 hown2 hgrow2 hb2; obtain ⟨a2, c2, rfl⟩ := owns_slice hown2; obtain ⟨d0, d1⟩ := HW.out.cell (grown_drew hgrow2); have HOW2 := Lib.hid hown2; have HGR2 := Lib.hid hgrow2; have HB2 := Lib.hid hb2; clear hown2 hgrow2 hb2)
      all_goals
        have x := HW.out.put (ys := [IntKind.u8.wrap X]) (grown_drew HGR2.out) HOW2.out (HB2.out.imp_right fun h => ⟨_, h, by show wr.heap.size ≤ (wr.alloc _).heap.size; simp⟩)
        have Y := Lib.hid x
        clear x
        go_wp2
        go_roundw
        case rel => exact ⟨i, _, L ++ [IntKind.u8.wrap X], rfl, by omega, by simp; omega, Lib.hid (by rw [HP.out, HX.out]; simp [bytesOf]), Lib.hid Y.out.1, Lib.hid (Stays.trans HB.out Y.out.2)⟩
        case measure => simp [intOf]
end Go.Proofs.YtabdbciebhmflaaDoor
