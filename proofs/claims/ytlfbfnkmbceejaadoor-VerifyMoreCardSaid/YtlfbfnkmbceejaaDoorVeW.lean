/-
  Package verify: states held against each other (Pairs); the document's own example ('wakes').
  Conditions: as each states.
-/
import Derived.Test.YtlfbfnkmbceejaaDoorVeK
namespace Go.Proofs.YtlfbfnkmbceejaaDoor
open Go.ChangeShapes Go.WideShapes Go.ChangeAt Go.RowKit
set_option linter.unusedVariables false
set_option linter.unusedSimpArgs false
set_option maxRecDepth 100000

theorem take_next {α : Type} {l : List α} {k : Nat} {x : α} (h : l[k]? = some x) : l.take (k + 1) = l.take k ++ [x] := by
  have hlt := (List.getElem?_eq_some_iff.1 h).1
  rw [List.take_succ_eq_append_getElem hlt, (List.getElem?_eq_some_iff.1 h).2]
set_option maxHeartbeats 4000000 in
theorem pairs_any {S : Nat → Prop} {w : World} {u v : Value} {xs ys : List PSt} (hu : rdAt S w u xs.length (stL xs)) (hv : rdAt S w v ys.length (stL ys)) (hx : xs.length ≤ 100000) (hy : ys.length ≤ 100000) :
    Calls Tryd.prog 16 #[u, v] w fun e w' => e = .returned (.bool (decide (xs = ys))) ∧ Below w.heap.size w w' := by
  obtain ⟨a, c, rfl, ha⟩ := hu
  obtain ⟨a2, c2, rfl, ha2⟩ := hv
  by_cases hlen : xs.length = ys.length
  · have HL := Lib.hid hlen
    have hlI : (xs.length : Int) = ys.length := by omega
    rw [← hlen]
    rw [← hlen] at ha2
    clear hlen hlI
    go_enter Tryd.func16, Tryd.ntmps16
    go_wp2_with fail
    go_loopw [5] (fun i wr => ∃ k : Nat, k ≤ xs.length ∧ i = .int .i64 k ∧ Hid (xs.take k = ys.take k) ∧ Hid (Below w.heap.size w wr)) (fun i _ => xs.length - (intOf i).toNat)
    case atStart => exact ⟨0, Nat.zero_le _, rfl, Lib.hid (by simp), Lib.hid (Below.refl _ _)⟩
    case round =>
      obtain ⟨k, hk, rfl, HK, HB⟩ := hrel
      by_cases hlt : k < xs.length
      · have hltI : (k : Int) < xs.length := by omega
        rcases ha with h0 | ⟨b, o, rfl, -, hb, hc⟩
        · omega
        rcases ha2 with h0 | ⟨b2, o2, rfl, -, hb2, hc2⟩
        · omega
        obtain ⟨⟨p, q⟩, hp⟩ : ∃ s, xs[k]? = some s := ⟨_, List.getElem?_eq_getElem hlt⟩
        obtain ⟨⟨x, y⟩, hs⟩ : ∃ s, ys[k]? = some s := ⟨_, List.getElem?_eq_getElem (by rw [← HL.out]; exact hlt)⟩
        have g1 := stL_get xs k hlt
        have g2 := stL_get ys k (by rw [← HL.out]; exact hlt)
        rw [show stAt xs k = (p, q) by unfold stAt; rw [List.getD_eq_getElem?_getD, hp]; rfl] at g1
        rw [show stAt ys k = (x, y) by unfold stAt; rw [List.getD_eq_getElem?_getD, hs]; rfl] at g2
        have e0 : wr.cell? ⟨b, o + k * 2, none⟩ = some (.int .i64 p) := (HB.out.cell (p := ⟨b, o + k * 2, none⟩) hb).trans (hc _ _ g1.1)
        have e1 : wr.cell? ⟨b, o + k * 2 + 1, none⟩ = some (.int .i64 q) := (HB.out.cell (p := ⟨b, o + k * 2 + 1, none⟩) hb).trans (hc _ _ g1.2)
        have e2 : wr.cell? ⟨b2, o2 + k * 2, none⟩ = some (.int .i64 x) := (HB.out.cell (p := ⟨b2, o2 + k * 2, none⟩) hb2).trans (hc2 _ _ g2.1)
        have e3 : wr.cell? ⟨b2, o2 + k * 2 + 1, none⟩ = some (.int .i64 y) := (HB.out.cell (p := ⟨b2, o2 + k * 2 + 1, none⟩) hb2).trans (hc2 _ _ g2.2)
        have NX := Lib.hid (take_next hp)
        have NY := Lib.hid (take_next hs)
        have HPX := Lib.hid hp
        have HSX := Lib.hid hs
        clear hc hc2 g1 g2 hp hs
        by_cases he : (p, q) = (x, y)
        · have r1 : ∀ w, (Op.equalIn 10000 47 (.agg #[.int .i64 p, .int .i64 q]) (.agg #[.int .i64 x, .int .i64 y])).run Tryd.prog w = .ok true w := fun w => by
            rw [run_st_eq]; cases he; simp
          have HE := Lib.hid he
          clear he
          go_wp2_with fail
          go_quiet (fail)
          rename_i nq
          go_wp2_with fail
          go_roundw
          case rel => exact ⟨k + 1, by omega, by go_num, Lib.hid (by rw [NX.out, NY.out, HK.out, HE.out]), Lib.hid (below_draws HB.out _)⟩
          case measure => simp [intOf]; omega
        · have r1 : ∀ w, (Op.equalIn 10000 47 (.agg #[.int .i64 p, .int .i64 q]) (.agg #[.int .i64 x, .int .i64 y])).run Tryd.prog w = .ok false w := fun w => by
            rw [run_st_eq]
            cases hc : (p == x) && (q == y)
            · rfl
            · simp only [Bool.and_eq_true, beq_iff_eq] at hc
              exact absurd (by rw [hc.1, hc.2]) he
          have HN := Lib.hid (show decide (xs = ys) = false from decide_eq_false fun h => he (by
            have := HPX.out; rw [h, HSX.out] at this; exact (Option.some.inj this).symm))
          clear he
          go_wp2_with fail
          go_quiet (fail)
          rename_i nq
          go_wp2_with fail
          go_ret
          exact ⟨ret_bool HN.out.symm, below_draws HB.out _⟩
      · obtain rfl : k = xs.length := by omega
        have HN := Lib.hid (show decide (xs = ys) = true from decide_eq_true (by
          have := HK.out; rw [List.take_length, HL.out, List.take_length] at this; exact this))
        go_wp2_with fail
        go_ret
        exact ⟨ret_bool HN.out.symm, HB.out⟩
  · have hb : ((xs.length : Int) != ys.length) = true := by simp; omega
    have HN := Lib.hid (show decide (xs = ys) = false from decide_eq_false fun h => hlen (by rw [h]))
    clear hlen
    go_enter Tryd.func16, Tryd.ntmps16
    go_wp2_with fail
    go_ret
    exact ⟨ret_bool HN.out.symm, Below.refl _ _⟩
theorem pairs_is {S : Nat → Prop} {w : World} {u v : Value} {xs ys : List PSt} {r : Bool} (h : decide (xs = ys) = r) (hu : rdAt S w u xs.length (stL xs)) (hv : rdAt S w v ys.length (stL ys)) (hx : xs.length ≤ 100000) (hy : ys.length ≤ 100000) :
    Calls Tryd.prog 16 #[u, v] w fun e w' => e = .returned (.bool r) ∧ Below w.heap.size w w' := h ▸ pairs_any hu hv hx hy

def Small8 (w : World) (l : List PIns) (e : Ending) (w' : World) : Prop :=
  ∃ a c, e = .returned (.agg #[.slice a 1 c, .slice none 0 0, .slice none 0 0]) ∧ prAt (fun _ => False) w' (.slice a 1 c) (.slice none 0 0) (.slice none 0 0) ([(0, 0, l)], [], []) ∧ Below w.heap.size w w'
theorem small8_end {S : Nat → Prop} {w W : World} {l : List PIns} {g : Nat} {v : Value} (hv : rdAt S w v l.length (insL l)) (hb : Below w.heap.size w W) (c0 : W.cell? ⟨g, 0, none⟩ = some (.int .i64 0)) (c1 : W.cell? ⟨g, 1, none⟩ = some (.int .i64 0)) (c2 : W.cell? ⟨g, 2, none⟩ = some v) :
    Small8 w l (.returned (.agg #[.slice (some ⟨g, 0, none⟩) 1 1, .slice none 0 0, .slice none 0 0])) W := by
  refine ⟨_, _, rfl, ⟨⟨_, _, rfl, .inr ⟨g, 0, rfl, fun t => t, World.block_lt_of_cell? W _ c0, fun i x hx => ?_⟩⟩, ⟨none, 0, rfl, .inl rfl⟩, ⟨none, 0, rfl, .inl rfl⟩⟩, hb⟩
  cases i with
  | zero =>
    simp at hx
    subst hx
    exact ⟨by simpa using c0, by simpa using c1, v, by simpa using c2, (hv.off (T := fun _ => False) fun _ _ t => t.elim).below hb⟩
  | succ i => simp at hx
theorem small8_any {S : Nat → Prop} {w : World} {v : Value} {l : List PIns} (h : rdAt S w v l.length (insL l)) :
    Calls Tryd.prog 20 #[v] w (Small8 w l) := by
  have HV := Lib.hid h
  obtain ⟨a, c, rfl⟩ := h.slice
  clear h
  go_enter Tryd.func20, Tryd.ntmps20
  go_wp2_with fail
  refine bodyPost_ret (v := .agg #[.slice (some ⟨w.heap.size + 1, 0, none⟩) 1 1, .slice none 0 0, .slice none 0 0]) (by simp [results, Tryd.results20, go_sem]) rfl (small8_end HV.out ?_ ?_ ?_ ?_)
  · repeat (first | exact Below.refl _ _ | refine down_alloc ?_ _ | refine down_set ?_ (by simp) _)
  · simp [go_sem]
  · simp [go_sem]
  · simp [go_sem]

def P8 : PPr := ([(0, 0, [(33, 4, 0), (0, 7, 0), (34, 0, 0), (9, 0, 0), (36, 0, 0), (9, 0, 0)])], [], [])
def P8b : PPr := ([(0, 0, [(37, 0, 0)])], [], [])
theorem p8_st : statesP P8 0 = some [(0, 0), (0, 1), (1, 1), (1, 0), (1, 0), (1, 0)] := by decide +kernel
theorem p8_no : statesP P8 1 = none := by decide +kernel
theorem p8_1 : checkP P8 1 = 0 := by decide +kernel
theorem p8_14 : checkP P8 14 = 18 := by decide +kernel
theorem p8b_0 : checkP P8b 0 = 2 := by decide +kernel
theorem p8_c : callsX P8 = 1 := by decide +kernel
end Go.Proofs.YtlfbfnkmbceejaaDoor
