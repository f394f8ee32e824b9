/-
  The contracts of the statements' own helpers (package stockpotkeep): Words, Pairs, Mod.
  Conditions: as each states.
-/
import Derived.Test.YtnjpjhlodamanaaMem
namespace Go.Proofs.Ytnjpjhlodamanaa
open Go.ChangeShapes Go.WideShapes Go.ChangeAt Go.RowKit
set_option linter.unusedVariables false
set_option linter.unusedSimpArgs false
set_option maxRecDepth 100000

/-- v is a slice of n elements whose cells read as cs. -/
def readsAt (w : World) (v : Value) (n : Nat) (cs : List Value) : Prop :=
  ∃ a c, v = .slice a n c ∧ (n = 0 ∨ ∃ b o, a = some ⟨b, o, none⟩ ∧ ∀ j u, cs[j]? = some u → w.cell? ⟨b, o + j, none⟩ = some u)

theorem readsAt.of_owns {w : World} {B : Nat} {e : TypeId} {size : Nat} {v : Value} {n : Nat} {xs : List Value} (h : w.ownsRow B e size v n xs) : readsAt w v n xs := by
  rcases owns_parts h with ⟨rfl, rfl, rfl⟩ | ⟨g, cap, rest, rfl, hg, hr, hl, hcap, hn, hm⟩
  · exact ⟨_, _, rfl, .inl rfl⟩
  · refine ⟨_, _, rfl, .inr ⟨g, 0, rfl, fun j u hj => ?_⟩⟩
    rw [hr.cell, Nat.zero_add, List.getElem?_append_left (List.getElem?_eq_some_iff.1 hj).1]
    exact hj
theorem readsAt.below {w w' : World} {v : Value} {n : Nat} {cs : List Value} (h : readsAt w v n cs) (hl : n = 0 ∨ 0 < cs.length) (hb : Below w.heap.size w w') : readsAt w' v n cs := by
  obtain ⟨a, c, rfl, h⟩ := h
  refine ⟨a, c, rfl, ?_⟩
  rcases h with h | ⟨b, o, rfl, h⟩
  · exact .inl h
  · refine .inr ⟨b, o, rfl, fun j u hj => ?_⟩
    have hc := h j u hj
    exact (hb.cell (p := ⟨b, o + j, none⟩) (World.block_lt_of_cell? w _ hc)).trans hc

theorem readsAt.row {w : World} {b n c : Nat} {T : TypeId} {cs rest : List Value} (h : rowAt w b T (cs ++ rest)) : readsAt w (.slice (some ⟨b, 0, none⟩) n c) n cs := by
  refine ⟨_, _, rfl, .inr ⟨b, 0, rfl, fun j u hj => ?_⟩⟩
  rw [h.cell, Nat.zero_add, List.getElem?_append_left (List.getElem?_eq_some_iff.1 hj).1]
  exact hj

abbrev wordsL (xs : List Int) : List Value := xs.map (Value.int .u64)

theorem keepWords_any {w : World} {u v : Value} {xs ys : List Int} (hu : readsAt w u xs.length (wordsL xs)) (hv : readsAt w v ys.length (wordsL ys)) (hx : xs.length ≤ 140737488355328) :
    Calls Try.prog 38 #[u, v] w fun e w' => e = .returned (.bool (decide (xs = ys))) ∧ ∃ q, w' = w.drewN q := by
  obtain ⟨a, c, rfl, ha⟩ := hu
  obtain ⟨a2, c2, rfl, ha2⟩ := hv
  by_cases hlen : xs.length = ys.length
  · rcases ha with h0 | ⟨b, o, rfl, hc⟩
    · have hx : xs = [] := List.length_eq_zero_iff.1 h0
      subst hx
      have hy : ys = [] := List.length_eq_zero_iff.1 (by rw [← hlen]; rfl)
      subst hy
      clear hlen h0 ha2
      go_enter Try.func38, Try.ntmps38
      go_wp2
      go_rounds 1
      go_ret
      exact ⟨rfl, 0, rfl⟩
    · rcases ha2 with h0 | ⟨b2, o2, rfl, hc2⟩
      · have hx : xs = [] := List.length_eq_zero_iff.1 (by omega)
        subst hx
        have hy : ys = [] := List.length_eq_zero_iff.1 h0
        subst hy
        clear hlen h0 hc
        go_enter Try.func38, Try.ntmps38
        go_wp2
        go_rounds 1
        go_ret
        exact ⟨rfl, 0, rfl⟩
      · have HC : Hid (∀ j u, (wordsL xs)[j]? = some u → w.cell? ⟨b, o + j, none⟩ = some u) := hc
        have HC2 : Hid (∀ j u, (wordsL ys)[j]? = some u → w.cell? ⟨b2, o2 + j, none⟩ = some u) := hc2
        have HL := Lib.hid hlen
        rw [← hlen]
        clear hc hc2 hlen
        go_enter Try.func38, Try.ntmps38
        go_wp2
        go_loopw [5] (fun i wr => ∃ k q : Nat, k ≤ xs.length ∧ i = .int .i64 k ∧ wr = w.drewN q ∧ Hid (xs.take k = ys.take k)) (fun i _ => xs.length - (intOf i).toNat)
        case atStart => exact ⟨0, 0, Nat.zero_le _, rfl, rfl, by simp [Hid]⟩
        case round =>
          obtain ⟨k, q, hk, rfl, rfl, HT⟩ := hrel
          by_cases hlt : k < xs.length
          · have hlt2 : k < ys.length := by rw [← HL.out]; exact hlt
            have e1 : w.cell? ⟨b, o + k, none⟩ = some (.int .u64 xs[k]) := HC.out k _ (by simp [hlt])
            have e2 : w.cell? ⟨b2, o2 + k, none⟩ = some (.int .u64 ys[k]) := HC2.out k _ (by simp [hlt2])
            by_cases heq : xs[k] = ys[k]
            · have f1 : (xs[k] != ys[k]) = false := by simpa using heq
              have HE := Lib.hid heq
              clear heq
              go_wp2
              go_quiet (fail)
              go_wp2
              go_roundw
              case rel => exact ⟨k + 1, _, by omega, by go_num, rfl, by show _ = _; rw [List.take_succ_eq_append_getElem hlt, List.take_succ_eq_append_getElem hlt2, HT.out, HE.out]⟩
              case measure => simp [intOf]; omega
            · have f1 : (xs[k] != ys[k]) = true := by simpa using heq
              have hne : decide (xs = ys) = false := decide_eq_false fun e => by subst e; exact heq rfl
              have HN := Lib.hid hne
              clear heq hne
              go_wp2
              go_quiet (fail)
              go_wp2
              go_ret
              exact ⟨by rw [HN.out]; rfl, _, by rw [World.drewN_drewN]⟩
          · have hke : k = xs.length := by omega
            have hdec : decide (xs = ys) = true := decide_eq_true (by
              have := HT.out
              rw [List.take_of_length_le (by omega), List.take_of_length_le (by have := HL.out; omega)] at this
              exact this)
            have HD := Lib.hid hdec
            clear hdec hke
            have hge : xs.length ≤ k := by omega
            clear hlt
            go_wp2
            go_ret
            exact ⟨by rw [HD.out]; rfl, _, rfl⟩
  · have hne : decide (xs = ys) = false := decide_eq_false fun e => by subst e; exact hlen rfl
    have HN := Lib.hid hne
    have hl : ((xs.length : Int) != (ys.length : Int)) = true := by simp; omega
    clear hne hlen ha ha2
    go_enter Try.func38, Try.ntmps38
    go_wp2
    go_ret
    exact ⟨by rw [HN.out]; rfl, 0, rfl⟩

def pairsL (xs : List (Int × Int)) : List Value := xs.flatMap fun r => [.int .i64 r.1, .int .i64 r.2]
theorem pairsL_get : ∀ (xs : List (Int × Int)) (k : Nat) (hk : k < xs.length), (pairsL xs)[k * 2]? = some (.int .i64 xs[k].1) ∧ (pairsL xs)[k * 2 + 1]? = some (.int .i64 xs[k].2)
  | [], k, hk => by simp at hk
  | x :: xs, 0, _ => by simp [pairsL]
  | x :: xs, k + 1, hk => by
    have ih := pairsL_get xs k (by simpa using hk)
    have e : (k + 1) * 2 = k * 2 + 1 + 1 := by omega
    rw [e]
    simpa [pairsL] using ih

theorem run_pair_eq (w : World) (x1 x2 y1 y2 : Int) :
    (Op.equalIn 10000 94 (.agg #[.int .i64 x1, .int .i64 x2]) (.agg #[.int .i64 y1, .int .i64 y2])).run Try.prog w = .ok ((x1 == y1) && (x2 == y2)) w := by
  have hu : Try.prog.underlying 94 = some (.array 2 3) := by kernel_rfl
  have he : Try.prog.underlying 3 = some (.int .i64) := by kernel_rfl
  have hi0 : (Try.prog.info? 3).isSome = true := by kernel_rfl
  obtain ⟨i, hi⟩ := Option.isSome_iff_exists.1 hi0
  have hc : Try.prog.cellsOf 3 = 1 := by kernel_rfl
  have p1 : ∀ w, (part 3 #[.int .i64 x1, .int .i64 x2] 0).run Try.prog w = .ok (.int .i64 x1) w := fun w => by kernel_rfl
  have p2 : ∀ w, (part 3 #[.int .i64 x1, .int .i64 x2] 1).run Try.prog w = .ok (.int .i64 x2) w := fun w => by kernel_rfl
  have p3 : ∀ w, (part 3 #[.int .i64 y1, .int .i64 y2] 0).run Try.prog w = .ok (.int .i64 y1) w := fun w => by kernel_rfl
  have p4 : ∀ w, (part 3 #[.int .i64 y1, .int .i64 y2] 1).run Try.prog w = .ok (.int .i64 y2) w := fun w => by kernel_rfl
  have hr : List.range 2 = [0, 1] := rfl
  rw [run_equalIn_array w 9999 _ _ hu hi, hc, hr]
  simp only [Op.eqItems, Sem.run_bind, Nat.zero_mul, Nat.one_mul, p1, p2, p3, p4, Result.andThen_ok, run_equalIn_int _ 9998 _ _ _ _ _ he]
  cases h1 : x1 == y1 <;> cases h2 : x2 == y2 <;> simp [p2, p4, run_equalIn_int _ 9998 _ _ _ _ _ he, h2]

end Go.Proofs.Ytnjpjhlodamanaa
