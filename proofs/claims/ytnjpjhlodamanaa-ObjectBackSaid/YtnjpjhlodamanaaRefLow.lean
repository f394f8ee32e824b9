/-
  'Cut' of the document's arena where there is no room, and 'Free' whatever there is.
  Conditions: as each states.
-/
import Derived.Test.YtnjpjhlodamanaaRefCut
import Derived.Deep.DeepCutAuto
import Derived.Deep.CutBlock
namespace Go.Proofs.Ytnjpjhlodamanaa
open Go.ChangeShapes Go.WideShapes Go.ChangeAt Go.RowKit
set_option linter.unusedVariables false
set_option linter.unusedSimpArgs false
set_option maxRecDepth 100000

theorem pairs_cells' {w : World} {a : Option Addr} {rs : List (Nat × Nat)} {j : Nat} (hj : j < rs.length) (h : rs.length = 0 ∨ ∃ g, a = some ⟨g, 0, none⟩ ∧ ∀ j (hj : j < rs.length), w.cell? ⟨g, j * 2, none⟩ = some (.int .i64 (rs[j].1 : Int)) ∧ w.cell? ⟨g, j * 2 + 1, none⟩ = some (.int .i64 (rs[j].2 : Int))) :
    ∃ g, a = some ⟨g, 0, none⟩ ∧ w.cell? ⟨g, j * 2, none⟩ = some (.int .i64 (rs[j].1 : Int)) ∧ w.cell? ⟨g, j * 2 + 1, none⟩ = some (.int .i64 (rs[j].2 : Int)) := by
  rcases h with h0 | ⟨g, rfl, hc⟩
  · omega
  · exact ⟨g, rfl, hc j hj⟩

theorem refCut_low {w : World} {p bw : Nat} {a : Option Addr} {cap : Nat} {A : Ar} {n : Int} (h : RefIn w p bw (.slice a A.rs.length cap) A) (hn : n < 1) :
    Calls Try.prog 21 #[.pointer (some ⟨p, 0, none⟩), .int .i64 n] w fun e w' => e = .returned (.int .i64 (-1)) ∧ Below w.heap.size w w' := by
  have hlen : A.rs.length ≤ 20000 := by have := h.ok.chain.len; have := h.ok.max; omega
  have hmax := h.ok.max
  obtain ⟨a', c', ha', hc⟩ := h.cells
  cases ha'
  have HC := Lib.hid hc
  have c1 : w.cell? ⟨p, 1, none⟩ = some (.slice a A.rs.length cap) := (h.root.cell 1).trans rfl
  have c0 : w.cell? ⟨p, 0, none⟩ = some (.slice (some ⟨bw, 0, none⟩) A.ws.length A.ws.length) := (h.root.cell 0).trans rfl
  have HG : Hid (∀ (i : Nat) (h : i < A.rs.length), 0 ≤ A.rs[i].1 ∧ 1 ≤ A.rs[i].2 ∧ A.rs[i].1 + A.rs[i].2 ≤ A.ws.length ∧ findR A.rs (A.rs[i].1 : Int) = some A.rs[i].2) := h.ok.chain.get
  have hn1 : decide (n < 1) = true := by simp; omega
  clear hc
  go_enter Try.func21, Try.ntmps21
  go_wp2
  go_loopw [5, 6] (fun a i wr => ∃ k lo q : Nat, k ≤ A.rs.length ∧ lo ≤ A.ws.length ∧ i = .int .i64 k ∧ a = .int .i64 lo ∧ wr = w.drewN q) (fun _ i _ => A.rs.length - (intOf i).toNat)
  case atStart => exact ⟨0, 0, 0, Nat.zero_le _, Nat.zero_le _, rfl, rfl, rfl⟩
  case round =>
    obtain ⟨k, lo, q, hk, hlo, rfl, rfl, rfl⟩ := hrel
    by_cases hlt : k < A.rs.length
    · obtain ⟨g, rfl, e1, e2⟩ := pairs_cells' (w := w) hlt HC.out
      obtain ⟨g1, g2, g3, g4⟩ := HG.out k hlt
      clear g4
      go_wp2
      go_quiet (fail)
      go_wp2
      go_roundw
      case rel => exact ⟨k + 1, A.rs[k].1 + A.rs[k].2, _, by omega, by omega, by go_num, by go_num, rfl⟩
      case measure => simp [intOf]; omega
    · go_wp2
      go_ret
      exact ⟨rfl, below_draws (Below.refl _ w) q⟩

theorem refCut_full {w : World} {p bw : Nat} {a : Option Addr} {cap : Nat} {A : Ar} {n : Int} (h : RefIn w p bw (.slice a A.rs.length cap) A) (hm1 : 1 ≤ n) (hroom : (A.ws.length : Int) - (A.at n : Int) < n) :
    Calls Try.prog 21 #[.pointer (some ⟨p, 0, none⟩), .int .i64 n] w fun e w' => e = .returned (.int .i64 (-1)) ∧ Below w.heap.size w w' := by
  have hlen : A.rs.length ≤ 20000 := by have := h.ok.chain.len; have := h.ok.max; omega
  have hmax := h.ok.max
  obtain ⟨a', c', ha', hc⟩ := h.cells
  cases ha'
  have HC := Lib.hid hc
  have c1 : w.cell? ⟨p, 1, none⟩ = some (.slice a A.rs.length cap) := (h.root.cell 1).trans rfl
  have c0 : w.cell? ⟨p, 0, none⟩ = some (.slice (some ⟨bw, 0, none⟩) A.ws.length A.ws.length) := (h.root.cell 0).trans rfl
  have HG : Hid (∀ (i : Nat) (h : i < A.rs.length), 0 ≤ A.rs[i].1 ∧ 1 ≤ A.rs[i].2 ∧ A.rs[i].1 + A.rs[i].2 ≤ A.ws.length ∧ findR A.rs (A.rs[i].1 : Int) = some A.rs[i].2) := h.ok.chain.get
  have hn1 : decide (n < 1) = false := by simp; omega
  have HRO : Hid ((A.ws.length : Int) - (A.at n : Int) < n) := hroom
  clear hc hroom
  go_enter Try.func21, Try.ntmps21
  go_wp2
  go_loopw [5, 6] (fun a i wr => ∃ k lo q : Nat, k ≤ A.rs.length ∧ lo ≤ A.ws.length ∧ i = .int .i64 k ∧ a = .int .i64 lo ∧ roomAt n A.rs 0 = ((roomAt n (A.rs.drop k) lo).1, (roomAt n (A.rs.drop k) lo).2 + k) ∧ wr = w.drewN q) (fun _ i _ => A.rs.length - (intOf i).toNat)
  case atStart => exact ⟨0, 0, 0, Nat.zero_le _, Nat.zero_le _, rfl, rfl, by simp, rfl⟩
  case round =>
    obtain ⟨k, lo, q, hk, hlo, rfl, rfl, hrm, rfl⟩ := hrel
    have HR := Lib.hid hrm
    clear hrm
    by_cases hlt : k < A.rs.length
    · obtain ⟨g, rfl, e1, e2⟩ := pairs_cells' (w := w) hlt HC.out
      obtain ⟨g1, g2, g3, g4⟩ := HG.out k hlt
      clear g4
      by_cases hc1 : n ≤ (A.rs[k].1 : Int) - lo
      · have e := roomAt_here n hlt hc1
        have hf : A.at n = lo := by unfold Ar.at; rw [HR.out, e]
        have hx : (A.ws.length : Int) - lo < n := by have := HRO.out; rw [hf] at this; exact this
        omega
      · have E := Lib.hid (roomAt_more n hlt hc1)
        go_wp2
        go_quiet (fail)
        go_wp2
        go_roundw
        case rel => exact ⟨k + 1, A.rs[k].1 + A.rs[k].2, _, by omega, by omega, by go_num, by go_num, by rw [HR.out, E.out]; simp; omega, rfl⟩
        case measure => simp [intOf]; omega
    · obtain rfl : k = A.rs.length := by omega
      have e : roomAt n (A.rs.drop A.rs.length) lo = (lo, 0) := by simp [roomAt]
      have hf : A.at n = lo := by unfold Ar.at; rw [HR.out, e]
      have hx : (A.ws.length : Int) - lo < n := by have := HRO.out; rw [hf] at this; exact this
      clear e hf
      go_wp2
      go_ret
      exact ⟨rfl, below_draws (Below.refl _ w) q⟩

end Go.Proofs.Ytnjpjhlodamanaa
