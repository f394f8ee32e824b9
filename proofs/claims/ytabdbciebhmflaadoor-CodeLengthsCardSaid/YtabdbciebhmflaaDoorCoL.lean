/-
  The contracts of the statements' own helpers over programs: Code.
  Conditions: as each states.
-/
import Derived.Test.YtabdbciebhmflaaDoorCoK
import Derived.Laws.StructEq
namespace Go.Proofs.YtabdbciebhmflaaDoor
open Go.ChangeShapes Go.WideShapes Go.ChangeAt Go.RowKit
set_option linter.unusedVariables false
set_option linter.unusedSimpArgs false
set_option maxRecDepth 100000

theorem run_ins_eq (w : World) (x1 x2 x3 y1 y2 y3 : Int) :
    (Op.equalIn 10000 47 (.agg #[.int .i64 x1, .int .i64 x2, .int .i64 x3]) (.agg #[.int .i64 y1, .int .i64 y2, .int .i64 y3])).run Tryd.prog w = .ok ((x1 == y1) && ((x2 == y2) && (x3 == y3))) w := by
  have hu := Tryd.underlying47
  have he : Tryd.prog.underlying 3 = some (.int .i64) := by kernel_rfl
  have hf : ∃ f0 f1 f2 : Field, (Tryd.prog.fieldsOf 47).toList = [f0, f1, f2] ∧ f0.name ≠ "_" ∧ f1.name ≠ "_" ∧ f2.name ≠ "_" ∧ f0.type = 3 ∧ f1.type = 3 ∧ f2.type = 3 ∧ f0.offset = 0 ∧ f1.offset = 1 ∧ f2.offset = 2 := by
    refine ⟨_, _, _, (by unfold Program.fieldsOf; rw [hu]), by decide, by decide, by decide, rfl, rfl, rfl, rfl, rfl, rfl⟩
  obtain ⟨f0, f1, f2, hl, n0, n1, n2, t0, t1, t2, o0, o1, o2⟩ := hf
  have p1 : ∀ w, (part 3 #[.int .i64 x1, .int .i64 x2, .int .i64 x3] 0).run Tryd.prog w = .ok (.int .i64 x1) w := fun w => by kernel_rfl
  have p2 : ∀ w, (part 3 #[.int .i64 x1, .int .i64 x2, .int .i64 x3] 1).run Tryd.prog w = .ok (.int .i64 x2) w := fun w => by kernel_rfl
  have p3 : ∀ w, (part 3 #[.int .i64 x1, .int .i64 x2, .int .i64 x3] 2).run Tryd.prog w = .ok (.int .i64 x3) w := fun w => by kernel_rfl
  have q1 : ∀ w, (part 3 #[.int .i64 y1, .int .i64 y2, .int .i64 y3] 0).run Tryd.prog w = .ok (.int .i64 y1) w := fun w => by kernel_rfl
  have q2 : ∀ w, (part 3 #[.int .i64 y1, .int .i64 y2, .int .i64 y3] 1).run Tryd.prog w = .ok (.int .i64 y2) w := fun w => by kernel_rfl
  have q3 : ∀ w, (part 3 #[.int .i64 y1, .int .i64 y2, .int .i64 y3] 2).run Tryd.prog w = .ok (.int .i64 y3) w := fun w => by kernel_rfl
  rw [run_equalIn_struct w 9999 47 _ _ (by rw [hu]; unfold Program.fieldsOf; rw [hu]) (by kernel_rfl), hl]
  simp only [Op.eqFields, n0, n1, n2, t0, t1, t2, o0, o1, o2, ne_eq, not_false_eq_true, if_true, Sem.run_bind, p1, p2, p3, q1, q2, q3, Result.andThen_ok, run_equalIn_int _ 9998 _ _ _ _ _ he]
  cases h1 : x1 == y1 <;> cases h2 : x2 == y2 <;> cases h3 : x3 == y3 <;> simp [p2, p3, q2, q3, run_equalIn_int _ 9998 _ _ _ _ _ he, h2, h3, Sem.run_pure]
theorem keepCode_any {w : World} {u v : Value} {xs ys : List PIns} (hu : readsAt w u xs.length (insL xs)) (hv : readsAt w v ys.length (insL ys)) (hx : xs.length ≤ 140737488355328) :
    Calls Tryd.prog 19 #[u, v] w fun e w' => e = .returned (.bool (decide (xs = ys))) ∧ ∃ q, w' = w.drewN q := by
  obtain ⟨a, c, rfl, ha⟩ := hu
  obtain ⟨a2, c2, rfl, ha2⟩ := hv
  by_cases hlen : xs.length = ys.length
  · rcases ha with h0 | ⟨b, o, rfl, hc⟩
    · have hx : xs = [] := List.length_eq_zero_iff.1 h0
      subst hx
      have hy : ys = [] := List.length_eq_zero_iff.1 (by rw [← hlen]; rfl)
      subst hy
      clear hlen h0 ha2
      go_enter Tryd.func19, Tryd.ntmps19
      go_wp2
      go_rounds 1
      go_ret
      exact ⟨rfl, 0, rfl⟩
    · rcases ha2 with h0 | ⟨b2, o2, rfl, hc2⟩
      · have hx : xs = [] := List.length_eq_zero_iff.1 (by omega)
        subst hx
        have hy : ys = [] := List.length_eq_zero_iff.1 h0
        subst hy
        clear hlen h0 hc
        go_enter Tryd.func19, Tryd.ntmps19
        go_wp2
        go_rounds 1
        go_ret
        exact ⟨rfl, 0, rfl⟩
      · have HC : Hid (∀ j u, (insL xs)[j]? = some u → w.cell? ⟨b, o + j, none⟩ = some u) := hc
        have HC2 : Hid (∀ j u, (insL ys)[j]? = some u → w.cell? ⟨b2, o2 + j, none⟩ = some u) := hc2
        have HL := Lib.hid hlen
        rw [← hlen]
        clear hc hc2 hlen
        go_enter Tryd.func19, Tryd.ntmps19
        go_wp2
        go_loopw [5] (fun i wr => ∃ k q : Nat, k ≤ xs.length ∧ i = .int .i64 k ∧ wr = w.drewN q ∧ Hid (xs.take k = ys.take k)) (fun i _ => xs.length - (intOf i).toNat)
        case atStart => exact ⟨0, 0, Nat.zero_le _, rfl, rfl, by simp [Hid]⟩
        case round =>
          obtain ⟨k, q, hk, rfl, rfl, HT⟩ := hrel
          by_cases hlt : k < xs.length
          · have hlt2 : k < ys.length := by rw [← HL.out]; exact hlt
            have gx := insL_get xs k _ (List.getElem?_eq_getElem hlt)
            have gy := insL_get ys k _ (List.getElem?_eq_getElem hlt2)
            have e1 : w.cell? ⟨b, o + k * 3, none⟩ = some (.int .i64 xs[k].1) := HC.out _ _ gx.1
            have e2 : w.cell? ⟨b, o + k * 3 + 1, none⟩ = some (.int .i64 xs[k].2.1) := HC.out _ _ gx.2.1
            have e2' : w.cell? ⟨b, o + k * 3 + 2, none⟩ = some (.int .i64 xs[k].2.2) := HC.out _ _ gx.2.2
            have e3 : w.cell? ⟨b2, o2 + k * 3, none⟩ = some (.int .i64 ys[k].1) := HC2.out _ _ gy.1
            have e4 : w.cell? ⟨b2, o2 + k * 3 + 1, none⟩ = some (.int .i64 ys[k].2.1) := HC2.out _ _ gy.2.1
            have e4' : w.cell? ⟨b2, o2 + k * 3 + 2, none⟩ = some (.int .i64 ys[k].2.2) := HC2.out _ _ gy.2.2
            clear gx gy
            by_cases heq : xs[k] = ys[k]
            · have f0 : ((xs[k].1 == ys[k].1) && ((xs[k].2.1 == ys[k].2.1) && (xs[k].2.2 == ys[k].2.2))) = true := by rw [heq]; simp
              have f1 : ∀ w, (Op.equalIn 10000 47 (.agg #[.int .i64 xs[k].1, .int .i64 xs[k].2.1, .int .i64 xs[k].2.2]) (.agg #[.int .i64 ys[k].1, .int .i64 ys[k].2.1, .int .i64 ys[k].2.2])).run Tryd.prog w = .ok true w := fun w => by rw [run_ins_eq, f0]
              clear f0
              have HE := Lib.hid heq
              clear heq
              go_wp2
              go_quiet (fail)
              go_wp2
              go_roundw
              case rel => exact ⟨k + 1, _, by omega, by go_num, rfl, by show _ = _; rw [List.take_succ_eq_append_getElem hlt, List.take_succ_eq_append_getElem hlt2, HT.out, HE.out]⟩
              case measure => simp [intOf]; omega
            · have f0 : ((xs[k].1 == ys[k].1) && ((xs[k].2.1 == ys[k].2.1) && (xs[k].2.2 == ys[k].2.2))) = false := by
                rw [Bool.eq_false_iff]
                intro e
                simp only [Bool.and_eq_true, beq_iff_eq] at e
                exact heq (Prod.ext e.1 (Prod.ext e.2.1 e.2.2))
              have f1 : ∀ w, (Op.equalIn 10000 47 (.agg #[.int .i64 xs[k].1, .int .i64 xs[k].2.1, .int .i64 xs[k].2.2]) (.agg #[.int .i64 ys[k].1, .int .i64 ys[k].2.1, .int .i64 ys[k].2.2])).run Tryd.prog w = .ok false w := fun w => by rw [run_ins_eq, f0]
              clear f0
              have hne : decide (xs = ys) = false := decide_eq_false fun e => by subst e; exact heq rfl
              have HN := Lib.hid hne
              clear heq hne
              go_wp2
              go_quiet (fail)
              go_wp2
              go_ret
              exact ⟨by rw [HN.out]; rfl, _, by rw [World.drewN_drewN]⟩
          · have hke : k = xs.length := by omega
            have hdec : decide (xs = ys) = true := decide_eq_true (by
              have := HT.out
              rw [List.take_of_length_le (by omega), List.take_of_length_le (by have := HL.out; omega)] at this
              exact this)
            have HD := Lib.hid hdec
            clear hdec hke
            have hge : xs.length ≤ k := by omega
            clear hlt
            go_wp2
            go_ret
            exact ⟨by rw [HD.out]; rfl, _, rfl⟩
  · have hne : decide (xs = ys) = false := decide_eq_false fun e => by subst e; exact hlen rfl
    have HN := Lib.hid hne
    have hl : ((xs.length : Int) != (ys.length : Int)) = true := by simp; omega
    clear hne hlen ha ha2
    go_enter Tryd.func19, Tryd.ntmps19
    go_wp2
    go_ret
    exact ⟨by rw [HN.out]; rfl, 0, rfl⟩

end Go.Proofs.YtabdbciebhmflaaDoor
