/-
  A walk of package verify in memory: its states, its places still to be left; 'come'.
  Conditions: as each states.
-/
import Derived.Test.YtlfbfnkmbceejaaDoorVeA
import Derived.Test.YtlfbfnkmbceejaaDoorCoM
namespace Go.Proofs.YtlfbfnkmbceejaaDoor
open Go.ChangeShapes Go.WideShapes Go.ChangeAt Go.RowKit
set_option linter.unusedVariables false
set_option linter.unusedSimpArgs false
set_option maxRecDepth 100000

abbrev tdL (l : List Nat) : List Value := l.map fun (a : Nat) => Value.int .i64 (a : Int)
structure WkAt (B : Nat) (w : World) (g bs : Nat) (cv tv : Value) (c : List PIns) (k : Wk) : Prop where
  row : rowAt w g 77 [cv, .slice (some ⟨bs, 0, none⟩) k.st.length k.st.length, tv, .bool k.wr]
  sts : rowAt w bs 47 (stL k.st)
  todo : w.ownsRow B 3 1 tv k.td.length (tdL k.td)
  own : ∀ x, tv.ownBlock = some x → B ≤ x ∧ x ≠ g ∧ x ≠ bs ∧ x < w.heap.size
  ne : g ≠ bs
  bg : B ≤ g
  bb : B ≤ bs
  code : rdAt (fun x => B ≤ x) w cv c.length (insL c)

theorem own_ge2 {w : World} {B : Nat} {e : TypeId} {size : Nat} {v : Value} {n : Nat} {xs : List Value} (h : w.ownsRow B e size v n xs) : ∀ g, v.ownBlock = some g → B ≤ g ∧ g < w.heap.size := by
  intro g hg
  rcases owns_parts h with ⟨rfl, _, _⟩ | ⟨g', cap, rest, rfl, h1, hr, _⟩
  · cases hg
  · cases hg; exact ⟨h1, hr.lt⟩
theorem row_src {w : World} {b : Nat} {T : TypeId} {xs : List Value} (h : rowAt w b T xs) (m : Nat) : m = 0 ∨ ∃ ad, (some (⟨b, 0, none⟩ : Addr)) = some ad ∧ ∀ j u, xs[j]? = some u → w.cell? (ad.add j) = some u := by
  refine .inr ⟨_, rfl, fun j u hj => ?_⟩
  rw [Addr.add_lit, h.cell, Nat.zero_add]
  exact hj
theorem upon_grown {w w' : World} {row : Option Nat} (h : w.grownBy w' row) : Upon (fun g => row = some g) w w' :=
  ⟨h.os, h.tape, h.output, h.size, fun k hk hs => h.block k hk fun e => hs e.symm⟩
theorem one_int (r : Int) : ∀ v ∈ [Value.int .i64 r], v.oneCell' = true := by
  intro v hv
  simp only [List.mem_cons, List.not_mem_nil, or_false] at hv
  subst hv; rfl

/-- The blocks that a walk writes. -/
def foot (g bs : Nat) (tv : Value) (x : Nat) : Prop := x = g ∨ x = bs ∨ tv.ownBlock = some x
section
variable {B g bs : Nat} {w w' : World} {cv tv : Value} {c : List PIns} {k : Wk}
theorem WkAt.lt (h : WkAt B w g bs cv tv c k) : B ≤ w.heap.size := Nat.le_trans h.bg (Nat.le_of_lt h.row.lt)
theorem WkAt.below (h : WkAt B w g bs cv tv c k) (hb : Below w.heap.size w w') : WkAt B w' g bs cv tv c k :=
  ⟨h.row.below hb h.row.lt, h.sts.below hb h.sts.lt, owns_upon h.todo (upon_of_below hb) fun _ _ t => t, fun x hx => ⟨(h.own x hx).1, (h.own x hx).2.1, (h.own x hx).2.2.1, Nat.lt_of_lt_of_le (h.own x hx).2.2.2 hb.size⟩, h.ne, h.bg, h.bb, h.code.below hb⟩
theorem WkAt.cell (h : WkAt B w g bs cv tv c k) : w.cell? ⟨g, 0, none⟩ = some cv ∧ w.cell? ⟨g, 1, none⟩ = some (.slice (some ⟨bs, 0, none⟩) k.st.length k.st.length) ∧ w.cell? ⟨g, 2, none⟩ = some tv ∧ w.cell? ⟨g, 3, none⟩ = some (.bool k.wr) :=
  ⟨(h.row.cell 0).trans rfl, (h.row.cell 1).trans rfl, (h.row.cell 2).trans rfl, (h.row.cell 3).trans rfl⟩
theorem WkAt.state (h : WkAt B w g bs cv tv c k) {a : Nat} (ha : a < k.st.length) : w.cell? ⟨bs, a * 2, none⟩ = some (.int .i64 (stAt k.st a).1) ∧ w.cell? ⟨bs, a * 2 + 1, none⟩ = some (.int .i64 (stAt k.st a).2) :=
  ⟨(h.sts.cell _).trans (stL_get k.st a ha).1, (h.sts.cell _).trans (stL_get k.st a ha).2⟩
theorem WkAt.wrong (h : WkAt B w g bs cv tv c k) (b : Bool) : WkAt B (w.setCell ⟨g, 3, none⟩ (.bool b)) g bs cv tv c { k with wr := b } :=
  ⟨h.row.set 3 (.bool b), h.sts.other _ _ (fun e => h.ne e.symm), owns_upon h.todo (Upon.setCell (S := fun x => x = g) _ _ rfl) (fun x hx e => (h.own x hx).2.1 e), fun x hx => ⟨(h.own x hx).1, (h.own x hx).2.1, (h.own x hx).2.2.1, by simpa [World.setCell] using (h.own x hx).2.2.2⟩, h.ne, h.bg, h.bb,
    h.code.upon (Upon.setCell (S := fun x => x = g) _ _ rfl) fun x _ e => by rw [e]; exact h.bg⟩
theorem WkAt.set (h : WkAt B w g bs cv tv c k) {a : Nat} (ha : a < k.st.length) (s : PSt) : WkAt B ((w.setCell ⟨bs, a * 2, none⟩ (.int .i64 s.1)).setCell ⟨bs, a * 2 + 1, none⟩ (.int .i64 s.2)) g bs cv tv c { k with st := k.st.set a s } := by
  have h1 := Upon.setCell (S := fun x => x = bs) (w := w) ⟨bs, a * 2, none⟩ (.int .i64 s.1) rfl
  have h2 := Upon.setCell (S := fun x => x = bs) (w := w.setCell ⟨bs, a * 2, none⟩ (.int .i64 s.1)) ⟨bs, a * 2 + 1, none⟩ (.int .i64 s.2) rfl
  have hu := h1.trans h2 fun _ _ h => h
  have hr : rowAt ((w.setCell ⟨bs, a * 2, none⟩ (.int .i64 s.1)).setCell ⟨bs, a * 2 + 1, none⟩ (.int .i64 s.2)) bs 47 (stL (k.st.set a s)) := by
    rw [← stL_set k.st a s ha]
    exact (h.sts.set (a * 2) (.int .i64 s.1)).set (a * 2 + 1) (.int .i64 s.2)
  refine ⟨?_, hr, owns_upon h.todo hu (fun x hx e => (h.own x hx).2.2.1 e), fun x hx => ⟨(h.own x hx).1, (h.own x hx).2.1, (h.own x hx).2.2.1, Nat.lt_of_lt_of_le (h.own x hx).2.2.2 hu.size⟩, h.ne, h.bg, h.bb, h.code.upon hu fun x _ e => by rw [e]; exact h.bb⟩
  have := h.row.upon hu h.ne
  simpa using this
theorem WkAt.app {W w4 : World} {v' : Value} {a : Nat} (h : WkAt B W g bs cv tv c k) (ho : w4.ownsRow B 3 1 v' (k.td.length + 1) (tdL k.td ++ [.int .i64 (a : Int)])) (hg : W.grownBy w4 tv.ownBlock) (hb : v'.ownBlock = tv.ownBlock ∨ v'.ownBlock = some W.heap.size) :
    w4.cell? ⟨g, 2, none⟩ = some tv ∧ w4.frozen? ⟨g, 2, none⟩ = false ∧ WkAt B (w4.setCell ⟨g, 2, none⟩ v') g bs cv v' c { k with td := k.td ++ [a] } ∧ Upon (foot g bs tv) W (w4.setCell ⟨g, 2, none⟩ v') ∧ ∀ x, v'.ownBlock = some x → tv.ownBlock = some x ∨ W.heap.size ≤ x := by
  have hu := upon_grown hg
  have r4 := h.row.upon hu fun e => (h.own g e).2.1 rfl
  have hu2 : Upon (fun x => x = g) w4 (w4.setCell ⟨g, 2, none⟩ v') := Upon.setCell _ _ rfl
  have hlt : g < W.heap.size := h.row.lt
  have hlb : bs < W.heap.size := h.sts.lt
  have off : ∀ x, v'.ownBlock = some x → B ≤ x ∧ x ≠ g ∧ x ≠ bs ∧ x < (w4.setCell ⟨g, 2, none⟩ v').heap.size := fun x e => by
    have hx := own_ge2 ho x e
    refine ⟨hx.1, ?_, ?_, Nat.lt_of_lt_of_le hx.2 hu2.size⟩
    · rcases hb with hb | hb
      · exact (h.own x (hb ▸ e)).2.1
      · rw [hb] at e; cases e; omega
    · rcases hb with hb | hb
      · exact (h.own x (hb ▸ e)).2.2.1
      · rw [hb] at e; cases e; omega
  have hS : ∀ x, x < W.heap.size → tv.ownBlock = some x → B ≤ x := fun x _ e => (h.own x e).1
  refine ⟨(r4.cell 2).trans rfl, r4.free 2, ⟨r4.set 2 v', (h.sts.upon hu fun e => (h.own bs e).2.2.1 rfl).other _ _ (fun e => h.ne e.symm), ?_, off, h.ne, h.bg, h.bb, (h.code.upon hu hS).upon hu2 fun x _ e => by rw [e]; exact h.bg⟩, ?_, fun x e => ?_⟩
  · rw [List.length_append, show tdL (k.td ++ [a]) = tdL k.td ++ [.int .i64 (a : Int)] by simp]
    exact owns_upon ho hu2 fun x hx e => (off x hx).2.1 e
  · exact (hu.mono fun x _ e => .inr (.inr e)).trans hu2 fun x _ e => .inl e
  · rcases hb with hb | hb
    · exact .inl (hb ▸ e)
    · rw [hb] at e; cases e; exact .inr (Nat.le_refl _)
end

theorem comeP_eq (k : Wk) (a : Nat) (s : PSt) : comeP k a s = if k.st.length ≤ a ∨ sOk s = false then { k with wr := true } else if stAt k.st a = stNo then ⟨k.st.set a s, k.td ++ [a], k.wr⟩ else if stAt k.st a = s then k else { k with wr := true } := rfl
def ComePost (B g bs : Nat) (cv tv : Value) (c : List PIns) (k' : Wk) (w : World) (e : Ending) (w' : World) : Prop :=
  e = .returned (.tuple #[]) ∧ (∃ tv', WkAt B w' g bs cv tv' c k' ∧ ∀ x, tv'.ownBlock = some x → tv.ownBlock = some x ∨ w.heap.size ≤ x) ∧ Upon (foot g bs tv) w w'
theorem foot_below {B g bs : Nat} {w1 w' : World} {cv tv : Value} {c : List PIns} {k : Wk} (h : WkAt B w1 g bs cv tv c k) (hu : Upon (foot g bs tv) w1 w') : Below B w1 w' :=
  hu.belowB h.lt fun x e => by rcases e with rfl | rfl | e; exact h.bg; exact h.bb; exact (h.own x e).1
theorem come_same {B g bs : Nat} {w w1 w' : World} {cv tv : Value} {c : List PIns} {k' : Wk} (hk : WkAt B w' g bs cv tv c k') (hb : Below w.heap.size w w1) (hu : Upon (foot g bs tv) w1 w') : ComePost B g bs cv tv c k' w (.returned (.tuple #[])) w' :=
  ⟨rfl, ⟨tv, hk, fun x e => .inl e⟩, (Upon.of_below hb).trans hu fun _ _ h => h⟩
theorem foot_set (w : World) (g bs : Nat) (tv v : Value) (o : Nat) : Upon (foot g bs tv) w (w.setCell ⟨g, o, none⟩ v) := Upon.setCell _ _ (.inl rfl)
theorem info_i64 : (Tryd.prog.info? 3).map (fun i => (i.zero, i.size, i.bytes)) = some (some (.int .i64 0), 1, 8) := by kernel_rfl
theorem under_ints : Tryd.prog.underlying 54 = some (.slice 3) := by kernel_rfl

set_option maxHeartbeats 8000000 in
theorem come_any {B g bs : Nat} {w0 w : World} {cv tv : Value} {c : List PIns} {k : Wk} (h : WkAt B w g bs cv tv c k) (T : VeTab w) (hl : k.st.length = c.length) (h6 : c.length ≤ 600) (ht : k.td.length ≤ 600) (a : Nat) (x y : Int) (ha : a ≤ 100000) :
    Calls Tryd.prog 42 #[.pointer (some ⟨g, 0, none⟩), .int .i64 a, .agg #[.int .i64 x, .int .i64 y]] w (ComePost B g bs cv tv c (comeP k a (x, y)) w) := by
  have E := Lib.hid (comeP_eq k a (x, y))
  obtain ⟨ca, cc, rfl⟩ := h.code.slice
  obtain ⟨ta, tc, rfl⟩ := owns_slice h.todo
  obtain ⟨W, hW⟩ : ∃ W, w.alloc (.cells #[.int .i64 x, .int .i64 y] 47) = W := ⟨_, rfl⟩
  have bW : Below w.heap.size w W := by rw [← hW]; exact down_alloc (Below.refl _ _) _
  have rW : rowAt W w.heap.size 47 [.int .i64 x, .int .i64 y] := by rw [← hW]; exact rowAt.made _ _ _
  have H := Lib.hid (h.below bW)
  have BW := Lib.hid bW
  have TW := Lib.hid (T.below bW)
  obtain ⟨c0, c1, c2, c3⟩ := H.out.cell
  have s0 : W.cell? ⟨w.heap.size, 0, none⟩ = some (.int .i64 x) := (rW.cell 0).trans rfl
  have s1 : W.cell? ⟨w.heap.size, 1, none⟩ = some (.int .i64 y) := (rW.cell 1).trans rfl
  have f3 := H.out.row.free 3
  have RW := Lib.hid rW
  have HB := Lib.hid h.lt
  clear h T bW rW
  by_cases hla : k.st.length ≤ a
  · have hlI : (c.length : Int) ≤ a := by omega
    have E2 := Lib.hid (show comeP k a (x, y) = { k with wr := true } by rw [E.out, if_pos (.inl hla)])
    go_enter Tryd.func42, Tryd.ntmps42
    go_wp2_with fail
    go_end0
    exact come_same (by rw [E2.out]; exact H.out.wrong true) BW.out (foot_set _ _ _ _ _ _)
  · have hlI : ¬ (c.length : Int) ≤ a := by omega
    have hlt : a < k.st.length := by omega
    cases hs : sOk (x, y)
    · have E2 := Lib.hid (show comeP k a (x, y) = { k with wr := true } by rw [E.out, if_pos (.inr hs)])
      have HS := Lib.hid hs
      clear hs
      go_enter Tryd.func42, Tryd.ntmps42
      go_wp2_with fail
      refine (within_is HS.out _).mono ?_
      rintro e w1 ⟨rfl, hb⟩
      have H1 := Lib.hid (H.out.below hb)
      have B1 := Lib.hid (down_call BW.out hb)
      obtain ⟨d0, d1, d2, d3⟩ := H1.out.cell
      have g3 := H1.out.row.free 3
      clear hb
      go_wp2_with fail
      go_end0
      exact come_same (by rw [E2.out]; exact H1.out.wrong true) B1.out (foot_set _ _ _ _ _ _)
    · have HS := Lib.hid hs
      clear hs
      obtain ⟨⟨p, q⟩, hpq⟩ : ∃ s, stAt k.st a = s := ⟨_, rfl⟩
      have HPQ := Lib.hid hpq
      have hl2 : (a : Int) < k.st.length := by omega
      clear hpq
      by_cases hno : (p, q) = stNo
      · have r1 : ∀ w, (Op.equalIn 10000 47 (.agg #[.int .i64 p, .int .i64 q]) (.agg #[.int .i64 (-1), .int .i64 (-1)])).run Tryd.prog w = .ok true w := fun w => by
          rw [run_st_eq]; cases hno; rfl
        have E2 := Lib.hid (show comeP k a (x, y) = ⟨k.st.set a (x, y), k.td ++ [a], k.wr⟩ by rw [E.out, if_neg (fun h => h.elim hla (by rw [HS.out]; decide)), if_pos (by rw [HPQ.out]; exact hno)])
        clear hno
        go_enter Tryd.func42, Tryd.ntmps42
        go_wp2_with fail
        refine (within_is HS.out _).mono ?_
        rintro e w1 ⟨rfl, hb⟩
        have H1 := Lib.hid (H.out.below hb)
        have B1 := Lib.hid (down_call BW.out hb)
        have S1 := RW.out.below hb RW.out.lt
        obtain ⟨d0, d1, d2, d3⟩ := H1.out.cell
        obtain ⟨e0, e1⟩ := H1.out.state hlt
        rw [HPQ.out] at e0 e1
        simp only at e0 e1
        have u0 : w1.cell? ⟨w.heap.size, 0, none⟩ = some (.int .i64 x) := (S1.cell 0).trans rfl
        have u1 : w1.cell? ⟨w.heap.size, 1, none⟩ = some (.int .i64 y) := (S1.cell 1).trans rfl
        have t0 := (TW.out.below hb).w0
        have t1 := (TW.out.below hb).w1
        have g2 := H1.out.row.free 2
        have g3 := H1.out.row.free 3
        have h4 := H1.out.sts.free (a * 2)
        have h5 := H1.out.sts.free (a * 2 + 1)
        clear hb S1
        go_wp2_with fail
        go_quiet (fail)
        rename_i nq
        go_wp2_with fail
        have K1 := Lib.hid (H1.out.below (below_draws (Below.refl w1.heap.size w1) (nq + 1)))
        have BQ := Lib.hid (below_draws (Below.refl w1.heap.size w1) (nq + 1))
        go_region
        obtain ⟨W2, hW2⟩ : ∃ W, ((w1.drewN (nq + 1)).setCell ⟨bs, a * 2, none⟩ (.int .i64 x)).setCell ⟨bs, a * 2 + 1, none⟩ (.int .i64 y) = W := ⟨_, rfl⟩
        have K2 : WkAt B W2 g bs (.slice ca c.length cc) (.slice ta k.td.length tc) c { k with st := k.st.set a (x, y) } := by rw [← hW2]; exact K1.out.set hlt (x, y)
        have B2 : Upon (foot g bs (.slice ta k.td.length tc)) w W2 := by
          rw [← hW2]
          have u1 := Upon.setCell (S := foot g bs (.slice ta k.td.length tc)) (w := w1.drewN (nq + 1)) ⟨bs, a * 2, none⟩ (.int .i64 x) (.inr (.inl rfl))
          have u2 := Upon.setCell (S := foot g bs (.slice ta k.td.length tc)) (w := (w1.drewN (nq + 1)).setCell ⟨bs, a * 2, none⟩ (.int .i64 x)) ⟨bs, a * 2 + 1, none⟩ (.int .i64 y) (.inr (.inl rfl))
          exact ((Upon.of_below (down_call B1.out BQ.out)).trans u1 fun _ _ h => h).trans u2 fun _ _ h => h
        obtain ⟨W3, hW3⟩ : ∃ W, W2.alloc (.cells #[.int .i64 (a : Int)] 3) = W := ⟨_, rfl⟩
        have b3 : Below W2.heap.size W2 W3 := by rw [← hW3]; exact down_alloc (Below.refl _ _) _
        have K3 := K2.below b3
        have r3 : rowAt W3 W2.heap.size 3 [.int .i64 (a : Int)] := by rw [← hW3]; exact rowAt.made _ _ _
        obtain ⟨i0, hi, hz0, hz1, hz2⟩ := info_parts info_i64
        have HK3 := Lib.hid K3
        have R3 := Lib.hid r3
        have B23 := Lib.hid (B2.trans (Upon.of_below (S := foot g bs (.slice ta k.td.length tc)) b3) fun _ _ h => h)
        have S23 := Lib.hid B23.out.size
        have cc0 := K3.cell.2.2.1
        have g0 : W2.cell? ⟨g, 2, none⟩ = some (.slice ta k.td.length tc) := K2.cell.2.2.1
        rw [hW2]
        clear hW2 K2 B2 b3 K3 r3 d0 d1 d2 d3 e0 e1 u0 u1 t0 t1 g2 g3 h4 h5 r1
        go_wp2_with (at_builtin; refine wpList_append_w (by rfl) _ _ _ (by rfl) B 3 i0 (.int .i64 0) 1 8 under_ints hi hz0 hz1 hz2 (by rfl) (by decide) (.slice ta k.td.length tc) k.td.length (tdL k.td) (by rfl) HK3.out.todo (some ⟨W2.heap.size, 0, none⟩) 1 1 [.int .i64 (a : Int)] (by rfl) (by rfl) (row_src R3.out 1) (one_int _) (by simp only [maxLen]; omega) (by omega) HK3.out.lt ?_; intro v' w4 ho4 hg4 hb4; obtain ⟨va, vc, rfl⟩ := owns_slice ho4; obtain ⟨x4, f4, k5, b5, o5⟩ := HK3.out.app ho4 hg4 hb4; have K5 := Lib.hid k5; have B5 := Lib.hid b5; have O5 := Lib.hid o5; clear ho4 hg4 hb4 k5 b5 o5)
        go_wp2_with fail
        go_end0
        exact ⟨rfl, ⟨_, by rw [E2.out]; exact K5.out, fun x e => (O5.out x e).imp_right fun h => Nat.le_trans S23.out h⟩, B23.out.trans B5.out fun _ _ h => h⟩
      · have hno2 : ((p == -1) && (q == -1)) = false := by
          cases hc : (p == -1) && (q == -1)
          · rfl
          · simp only [Bool.and_eq_true, beq_iff_eq] at hc
            exact absurd (by rw [hc.1, hc.2]; rfl) hno
        have r1 : ∀ w, (Op.equalIn 10000 47 (.agg #[.int .i64 p, .int .i64 q]) (.agg #[.int .i64 (-1), .int .i64 (-1)])).run Tryd.prog w = .ok false w := fun w => by
          rw [run_st_eq, hno2]
        by_cases hsm : (p, q) = (x, y)
        · have r2 : ∀ w, (Op.equalIn 10000 47 (.agg #[.int .i64 p, .int .i64 q]) (.agg #[.int .i64 x, .int .i64 y])).run Tryd.prog w = .ok true w := fun w => by
            rw [run_st_eq]; cases hsm; simp
          have E2 := Lib.hid (show comeP k a (x, y) = k by rw [E.out, if_neg (fun h => h.elim hla (by rw [HS.out]; decide)), if_neg (by rw [HPQ.out]; exact hno), if_pos (by rw [HPQ.out]; exact hsm)])
          clear hno hno2 hsm
          go_enter Tryd.func42, Tryd.ntmps42
          go_wp2_with fail
          refine (within_is HS.out _).mono ?_
          rintro e w1 ⟨rfl, hb⟩
          have H1 := Lib.hid (H.out.below hb)
          have B1 := Lib.hid (down_call BW.out hb)
          have S1 := RW.out.below hb RW.out.lt
          obtain ⟨d0, d1, d2, d3⟩ := H1.out.cell
          obtain ⟨e0, e1⟩ := H1.out.state hlt
          rw [HPQ.out] at e0 e1
          simp only at e0 e1
          have u0 : w1.cell? ⟨w.heap.size, 0, none⟩ = some (.int .i64 x) := (S1.cell 0).trans rfl
          have u1 : w1.cell? ⟨w.heap.size, 1, none⟩ = some (.int .i64 y) := (S1.cell 1).trans rfl
          have t0 := (TW.out.below hb).w0
          have t1 := (TW.out.below hb).w1
          have g2 := H1.out.row.free 2
          have g3 := H1.out.row.free 3
          have h4 := H1.out.sts.free (a * 2)
          have h5 := H1.out.sts.free (a * 2 + 1)
          clear hb S1
          go_wp2_with fail
          have DN := Lib.hid (show ∀ W', Below w1.heap.size w1 W' → ComePost B g bs (.slice ca c.length cc) (.slice ta k.td.length tc) c (comeP k a (x, y)) w (.returned (.tuple #[])) W' from fun W' hb => come_same (by rw [E2.out]; exact H1.out.below hb) (down_call B1.out hb) (Upon.refl _ _))
          go_quiet (fail)
          rename_i nq
          go_wp2_with fail
          go_quiet (fail)
          rename_i nq2
          go_wp2_with fail
          go_end0
          exact DN.out _ (by repeat (first | exact Below.refl _ _ | refine below_drewN ?_ _ | refine down_drew ?_ | refine down_drewN ?_ _))
        · have hsm2 : ((p == x) && (q == y)) = false := by
            cases hc : (p == x) && (q == y)
            · rfl
            · simp only [Bool.and_eq_true, beq_iff_eq] at hc
              exact absurd (by rw [hc.1, hc.2]) hsm
          have r2 : ∀ w, (Op.equalIn 10000 47 (.agg #[.int .i64 p, .int .i64 q]) (.agg #[.int .i64 x, .int .i64 y])).run Tryd.prog w = .ok false w := fun w => by
            rw [run_st_eq, hsm2]
          have E2 := Lib.hid (show comeP k a (x, y) = { k with wr := true } by rw [E.out, if_neg (fun h => h.elim hla (by rw [HS.out]; decide)), if_neg (by rw [HPQ.out]; exact hno), if_neg (by rw [HPQ.out]; exact hsm)])
          clear hno hno2 hsm hsm2
          go_enter Tryd.func42, Tryd.ntmps42
          go_wp2_with fail
          refine (within_is HS.out _).mono ?_
          rintro e w1 ⟨rfl, hb⟩
          have H1 := Lib.hid (H.out.below hb)
          have B1 := Lib.hid (down_call BW.out hb)
          have S1 := RW.out.below hb RW.out.lt
          obtain ⟨d0, d1, d2, d3⟩ := H1.out.cell
          obtain ⟨e0, e1⟩ := H1.out.state hlt
          rw [HPQ.out] at e0 e1
          simp only at e0 e1
          have u0 : w1.cell? ⟨w.heap.size, 0, none⟩ = some (.int .i64 x) := (S1.cell 0).trans rfl
          have u1 : w1.cell? ⟨w.heap.size, 1, none⟩ = some (.int .i64 y) := (S1.cell 1).trans rfl
          have t0 := (TW.out.below hb).w0
          have t1 := (TW.out.below hb).w1
          have g2 := H1.out.row.free 2
          have g3 := H1.out.row.free 3
          have h4 := H1.out.sts.free (a * 2)
          have h5 := H1.out.sts.free (a * 2 + 1)
          clear hb S1
          go_wp2_with fail
          go_quiet (fail)
          rename_i nq
          go_wp2_with fail
          go_quiet (fail)
          rename_i nq2
          go_wp2_with fail
          go_end0
          exact come_same (by rw [E2.out]; exact (H1.out.below (below_draws (Below.refl _ _) _)).wrong true) (below_draws B1.out _) (foot_set _ _ _ _ _ _)
end Go.Proofs.YtlfbfnkmbceejaaDoor
