/-
  The contracts of the statements' own helpers: Ints, Object, LongObject, OwnObject.
  Conditions: as each states.
-/
import Derived.Test.YtejbblhlbilpnaaZHeld
import Derived.Test.YtejbblhlbilpnaaZObA
namespace Go.Proofs.Ytejbblhlbilpnaa
open Go.ChangeShapes Go.WideShapes Go.ChangeAt Go.RowKit
set_option linter.unusedVariables false
set_option linter.unusedSimpArgs false
set_option maxRecDepth 100000

abbrev intsL (xs : List Int) : List Value := xs.map (Value.int .i64)
theorem keepInts_any {w : World} {u v : Value} {xs ys : List Int} (hu : readsAt w u xs.length (intsL xs)) (hv : readsAt w v ys.length (intsL ys)) (hx : xs.length ≤ 140737488355328) :
    Calls Try.prog 23 #[u, v] w fun e w' => e = .returned (.bool (decide (xs = ys))) ∧ ∃ q, w' = w.drewN q := by
  obtain ⟨a, c, rfl, ha⟩ := hu
  obtain ⟨a2, c2, rfl, ha2⟩ := hv
  by_cases hlen : xs.length = ys.length
  · rcases ha with h0 | ⟨b, o, rfl, hc⟩
    · have hx : xs = [] := List.length_eq_zero_iff.1 h0
      subst hx
      have hy : ys = [] := List.length_eq_zero_iff.1 (by rw [← hlen]; rfl)
      subst hy
      clear hlen h0 ha2
      go_enter Try.func23, Try.ntmps23
      go_wp2
      go_rounds 1
      go_ret
      exact ⟨rfl, 0, rfl⟩
    · rcases ha2 with h0 | ⟨b2, o2, rfl, hc2⟩
      · have hx : xs = [] := List.length_eq_zero_iff.1 (by omega)
        subst hx
        have hy : ys = [] := List.length_eq_zero_iff.1 h0
        subst hy
        clear hlen h0 hc
        go_enter Try.func23, Try.ntmps23
        go_wp2
        go_rounds 1
        go_ret
        exact ⟨rfl, 0, rfl⟩
      · have HC : Hid (∀ j u, (intsL xs)[j]? = some u → w.cell? ⟨b, o + j, none⟩ = some u) := hc
        have HC2 : Hid (∀ j u, (intsL ys)[j]? = some u → w.cell? ⟨b2, o2 + j, none⟩ = some u) := hc2
        have HL := Lib.hid hlen
        rw [← hlen]
        clear hc hc2 hlen
        go_enter Try.func23, Try.ntmps23
        go_wp2
        go_loopw [5] (fun i wr => ∃ k q : Nat, k ≤ xs.length ∧ i = .int .i64 k ∧ wr = w.drewN q ∧ Hid (xs.take k = ys.take k)) (fun i _ => xs.length - (intOf i).toNat)
        case atStart => exact ⟨0, 0, Nat.zero_le _, rfl, rfl, by simp [Hid]⟩
        case round =>
          obtain ⟨k, q, hk, rfl, rfl, HT⟩ := hrel
          by_cases hlt : k < xs.length
          · have hlt2 : k < ys.length := by rw [← HL.out]; exact hlt
            have e1 : w.cell? ⟨b, o + k, none⟩ = some (.int .i64 xs[k]) := HC.out k _ (by simp [hlt])
            have e2 : w.cell? ⟨b2, o2 + k, none⟩ = some (.int .i64 ys[k]) := HC2.out k _ (by simp [hlt2])
            by_cases heq : xs[k] = ys[k]
            · have f1 : (xs[k] != ys[k]) = false := by simpa using heq
              have HE := Lib.hid heq
              clear heq
              go_wp2
              go_quiet (fail)
              go_wp2
              go_roundw
              case rel => exact ⟨k + 1, _, by omega, by go_num, rfl, by show _ = _; rw [List.take_succ_eq_append_getElem hlt, List.take_succ_eq_append_getElem hlt2, HT.out, HE.out]⟩
              case measure => simp [intOf]; omega
            · have f1 : (xs[k] != ys[k]) = true := by simpa using heq
              have hne : decide (xs = ys) = false := decide_eq_false fun e => by subst e; exact heq rfl
              have HN := Lib.hid hne
              clear heq hne
              go_wp2
              go_quiet (fail)
              go_wp2
              go_ret
              exact ⟨by rw [HN.out]; rfl, _, by rw [World.drewN_drewN]⟩
          · have hke : k = xs.length := by omega
            have hdec : decide (xs = ys) = true := decide_eq_true (by
              have := HT.out
              rw [List.take_of_length_le (by omega), List.take_of_length_le (by have := HL.out; omega)] at this
              exact this)
            have HD := Lib.hid hdec
            clear hdec hke
            have hge : xs.length ≤ k := by omega
            clear hlt
            go_wp2
            go_ret
            exact ⟨by rw [HD.out]; rfl, _, rfl⟩
  · have hne : decide (xs = ys) = false := decide_eq_false fun e => by subst e; exact hlen rfl
    have HN := Lib.hid hne
    have hl : ((xs.length : Int) != (ys.length : Int)) = true := by simp; omega
    clear hne hlen ha ha2
    go_enter Try.func23, Try.ntmps23
    go_wp2
    go_ret
    exact ⟨by rw [HN.out]; rfl, 0, rfl⟩

theorem keepInts_h {w : World} {u v : Value} {xs ys : List Int} (hu : readsAt w u xs.length (intsL xs)) (hv : readsAt w v ys.length (intsL ys)) (hx : xs.length ≤ 140737488355328) {b : Bool} (hb : decide (xs = ys) = b) :
    Calls Try.prog 23 #[u, v] w fun e w' => e = .returned (.bool b) ∧ Below w.heap.size w w' :=
  (keepInts_any hu hv hx).mono fun e w' ⟨he, q, hq⟩ => ⟨by rw [he, hb], by rw [hq]; exact below_draws (Below.refl _ _) q⟩

abbrev objv (k t : Int) (a : Option Addr) (nf c : Nat) (s : ByteArray) : Value := .agg #[.int .i64 k, .int .i64 t, .slice a nf c, .string s]

theorem long_any (k t : Int) (a : Option Addr) (nf c : Nat) (s : ByteArray) (w : World) :
    Calls Try.prog 9 #[objv k t a nf c s] w fun e w' => e = .returned (.bool (decide (600 < nf ∨ 800 < s.size))) ∧ Below w.heap.size w w' := by
  by_cases h1 : 600 < nf
  · rw [decide_eq_true (Or.inl h1)]
    go_enter Try.func9, Try.ntmps9
    go_wp2
    go_ret
    exact ⟨rfl, bl_alloc (Below.refl _ _) _⟩
  · have h1' : nf ≤ 600 := by omega
    by_cases h2 : 800 < s.size
    · rw [decide_eq_true (Or.inr h2)]
      clear h1
      go_enter Try.func9, Try.ntmps9
      go_wp2
      go_ret
      exact ⟨ret_bool (by simp; omega), bl_alloc (Below.refl _ _) _⟩
    · have h2' : s.size ≤ 800 := by omega
      rw [decide_eq_false (by omega)]
      clear h1 h2
      go_enter Try.func9, Try.ntmps9
      go_wp2
      go_ret
      exact ⟨ret_bool (by simp; omega), bl_alloc (Below.refl _ _) _⟩
end Go.Proofs.Ytejbblhlbilpnaa
