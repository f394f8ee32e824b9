/-
  Package code: the reader's bytes and numbers.
  Conditions: as each states.
-/
import Derived.Test.YtabdbciebhmflaaDoorCoE
import Derived.Laws.Bits64b
namespace Go.Proofs.YtabdbciebhmflaaDoor
open Go.ChangeShapes Go.WideShapes Go.ChangeAt Go.RowKit
set_option linter.unusedVariables false
set_option linter.unusedSimpArgs false
set_option maxRecDepth 100000

theorem wrap_i64_eq (x : Int) : IntKind.i64.wrap x = (x + 9223372036854775808) % 18446744073709551616 - 9223372036854775808 := by
  simp only [IntKind.wrap_i64]
theorem or_byte64 (n y : Int) (hy : 0 ≤ y ∧ y < 256) : bits .or .i64 (IntKind.i64.wrap (n * 256)) y = IntKind.i64.wrap (n * 256 + y) := by
  obtain ⟨b, rfl⟩ := Int.eq_ofNat_of_zero_le hy.1
  have hb : b < 256 := by omega
  obtain ⟨x, hx⟩ : ∃ x, IntKind.i64.wrap (n * 256) = x := ⟨_, rfl⟩
  have hx' := hx
  rw [wrap_i64_eq] at hx'
  rw [hx]
  have h1 : (BitVec.ofInt 64 x).toNat = (x % 18446744073709551616).toNat := by
    rw [BitVec.toNat_ofInt]; rfl
  have h2 : (BitVec.ofInt 64 (b : Int)).toNat = b := by
    rw [BitVec.ofInt_natCast, BitVec.toNat_ofNat]; exact Nat.mod_eq_of_lt (by omega)
  show IntKind.i64.wrap ((BitVec.ofInt 64 x ||| BitVec.ofInt 64 (b : Int)).toNat : Int) = _
  rw [BitVec.toNat_or, h1, h2]
  obtain ⟨q, hq⟩ : ∃ q : Nat, (x % 18446744073709551616).toNat = 2 ^ 8 * q := ⟨(x % 18446744073709551616).toNat / 256, by omega⟩
  rw [hq, ← Nat.two_pow_add_eq_or_of_lt (by omega : b < 2 ^ 8) q, wrap_i64_eq, wrap_i64_eq]
  omega

/-- v is a slice of these bytes, in a block below B0. -/
def bySl (B0 : Nat) (w : World) (v : Value) (l : List Int) : Prop :=
  ∃ a c, v = .slice a l.length c ∧ l.length ≤ c ∧ c ≤ maxLen ∧ (l.length = 0 ∨ ∃ b o, a = some ⟨b, o, none⟩ ∧ b < B0 ∧ b < w.heap.size ∧ ∀ j z, l[j]? = some z → w.cell? ⟨b, o + j, none⟩ = some (.int .u8 z))
theorem bySl.upon {B0 : Nat} {T : Nat → Prop} {w w' : World} {v : Value} {l : List Int} (h : bySl B0 w v l) (hu : Upon T w w') (hT : ∀ k, k < w.heap.size → T k → B0 ≤ k) : bySl B0 w' v l := by
  obtain ⟨a, c, rfl, h1, h2, h⟩ := h
  refine ⟨a, c, rfl, h1, h2, ?_⟩
  rcases h with h | ⟨b, o, rfl, hs, hb, hc⟩
  · exact .inl h
  · exact .inr ⟨b, o, rfl, hs, Nat.lt_of_lt_of_le hb hu.size, fun j z hj => by rw [cell_upon hu hb fun t => by have := hT b hb t; omega]; exact hc j z hj⟩
/-- A reader at p, that stands at s. -/
structure RdAt (B0 : Nat) (w : World) (p : Nat) (s : Rd) : Prop where
  sv : ∃ v, rowAt w p 65 [v, .bool s.2] ∧ bySl B0 w v s.1
  low : B0 ≤ p
  bd : ∀ z ∈ s.1, 0 ≤ z ∧ z < 256
theorem RdAt.upon {B0 : Nat} {T : Nat → Prop} {w w' : World} {p : Nat} {s : Rd} (h : RdAt B0 w p s) (hu : Upon T w w') (hT : ∀ k, k < w.heap.size → T k → B0 ≤ k) (hp : ¬ T p) : RdAt B0 w' p s := by
  obtain ⟨⟨v, hr, hv⟩, hl, hb⟩ := h
  exact ⟨⟨v, hr.upon hu hp, hv.upon hu hT⟩, hl, hb⟩
theorem RdAt.below {B0 : Nat} {w w' : World} {p : Nat} {s : Rd} (h : RdAt B0 w p s) (hb : Below w.heap.size w w') : RdAt B0 w' p s := h.upon (upon_of_below hb) (fun _ _ t => t.elim) fun t => t
theorem RdAt.lt {B0 : Nat} {w : World} {p : Nat} {s : Rd} (h : RdAt B0 w p s) : p < w.heap.size := by
  obtain ⟨⟨v, hr, _⟩, _, _⟩ := h; exact hr.lt

def TakePost (B0 : Nat) (w : World) (p : Nat) (r : List Int × Rd) (e : Ending) (w' : World) : Prop :=
  ∃ v, e = .returned v ∧ bySl B0 w' v r.1 ∧ RdAt B0 w' p r.2 ∧ Upon (fun g => g = p) w w'
theorem byte_info : ∃ i, Tryd.prog.info? 5 = some i ∧ i.size = 1 := by
  obtain ⟨i0, hi, hz0, hz1, hz2⟩ := info_parts info_byte
  exact ⟨i0, hi, hz1⟩

theorem take_end {B0 : Nat} {w : World} {p k n c : Nat} {a : Option Addr} {s : Rd} (hr : rowAt w p 65 [.slice a n c, .bool s.2]) (hn : n = s.1.length) (hlow : B0 ≤ p) (hbd : ∀ z ∈ s.1, 0 ≤ z ∧ z < 256) (hc1 : n ≤ c) (hc2 : c ≤ maxLen)
    (hv : n = 0 ∨ ∃ b o, a = some ⟨b, o, none⟩ ∧ b < B0 ∧ b < w.heap.size ∧ ∀ j z, s.1[j]? = some z → w.cell? ⟨b, o + j, none⟩ = some (.int .u8 z)) (hk : k ≤ n) (v2 : Value)
    (h2 : v2 = .slice (if c = k then a else a.map (·.add (k * 1))) (n - k) (c - k)) :
    TakePost B0 w p (rdTake k s) (.returned (.slice a k c)) (w.setCell ⟨p, 0, none⟩ v2) := by
  subst hn
  have hu : Upon (fun g => g = p) w (w.setCell ⟨p, 0, none⟩ v2) := Upon.setCell _ _ rfl
  have e : rdTake k s = (s.1.take k, (s.1.drop k, s.2)) := if_pos hk
  rw [e]
  have hlt : (s.1.take k).length = k := List.length_take_of_le hk
  refine ⟨_, rfl, ⟨a, c, by rw [hlt], by rw [hlt]; omega, hc2, ?_⟩, ⟨⟨v2, ?_, ?_⟩, hlow, fun z hz => hbd z (List.mem_of_mem_drop hz)⟩, hu⟩
  · rcases hv with h0 | ⟨b, o, rfl, hb, hb2, hc⟩
    · exact .inl (by rw [hlt]; omega)
    · refine .inr ⟨b, o, rfl, hb, Nat.lt_of_lt_of_le hb2 hu.size, fun j z hj => ?_⟩
      rw [cell_upon hu hb2 (by omega)]
      refine hc j z ?_
      rw [List.getElem?_take] at hj
      split at hj
      · exact hj
      · cases hj
  · exact hr.set 0 v2
  · refine ⟨if c = k then a else a.map (·.add (k * 1)), c - k, by rw [h2, List.length_drop], by rw [List.length_drop]; omega, by omega, ?_⟩
    rcases hv with h0 | ⟨b, o, rfl, hb, hb2, hc⟩
    · exact .inl (by rw [List.length_drop]; omega)
    · by_cases hk2 : k = s.1.length
      · exact .inl (by rw [List.length_drop]; omega)
      · refine .inr ⟨b, o + k, by rw [if_neg (by omega)]; simp [Addr.add_lit], hb, Nat.lt_of_lt_of_le hb2 hu.size, fun j z hj => ?_⟩
        rw [cell_upon hu hb2 (by omega), Nat.add_assoc]
        refine hc (k + j) z ?_
        rw [List.getElem?_drop] at hj
        exact hj

theorem take_lost {B0 : Nat} {w : World} {p k : Nat} {v : Value} {s : Rd} (hr : rowAt w p 65 [v, .bool s.2]) (hv : bySl B0 w v s.1) (hlow : B0 ≤ p) (hbd : ∀ z ∈ s.1, 0 ≤ z ∧ z < 256) (hk : s.1.length < k) :
    TakePost B0 w p (rdTake k s) (.returned (.slice none 0 0)) (w.setCell ⟨p, 1, none⟩ (.bool true)) := by
  have hu : Upon (fun g => g = p) w (w.setCell ⟨p, 1, none⟩ (.bool true)) := Upon.setCell _ _ rfl
  have e : rdTake k s = ([], (s.1, true)) := if_neg (by omega)
  rw [e]
  refine ⟨_, rfl, ⟨none, 0, rfl, Nat.le_refl _, Nat.zero_le _, .inl rfl⟩, ⟨⟨v, hr.set 1 _, hv.upon hu (fun k _ e => by subst e; exact hlow)⟩, hlow, hbd⟩, hu⟩

set_option maxHeartbeats 1000000 in
theorem take_any {B0 : Nat} {w : World} {p : Nat} {s : Rd} (h : RdAt B0 w p s) (k : Nat) :
    Calls Tryd.prog 50 #[.pointer (some ⟨p, 0, none⟩), .int .i64 k] w (TakePost B0 w p (rdTake k s)) := by
  obtain ⟨⟨v, hr, hv⟩, hlow, hbd⟩ := h
  obtain ⟨i, hi, hi1⟩ := byte_info
  have c0 : w.cell? ⟨p, 0, none⟩ = some v := (hr.cell 0).trans rfl
  have c1 : w.cell? ⟨p, 1, none⟩ = some (.bool s.2) := (hr.cell 1).trans rfl
  have f0 : w.frozen? ⟨p, 0, none⟩ = false := hr.free 0
  have f1 : w.frozen? ⟨p, 1, none⟩ = false := hr.free 1
  by_cases hk : k ≤ s.1.length
  · obtain ⟨a, c, rfl, hn, hm, hv⟩ := hv
    have hm' := hm
    unfold maxLen at hm'
    obtain ⟨a2, hv2⟩ : ∃ a2, (if c = k then a else a.map (·.add (k * 1))) = a2 := ⟨_, rfl⟩
    have PO := Lib.hid (take_end hr rfl hlow hbd hn hm hv hk (.slice a2 (s.1.length - k) (c - k)) (by rw [hv2]))
    have run1 : ∀ w, (Instr.slice 27 (.slice a s.1.length c) none (some (.int .i64 (k : Int))) none).run Tryd.prog w = .ok (.slice a k c) w := fun w => run_slice_to_w _ _ under_bytes hi a hk hn w
    have run2 : ∀ w, (Instr.slice 27 (.slice a s.1.length c) (some (.int .i64 (k : Int))) none none).run Tryd.prog w = .ok (.slice a2 (s.1.length - k) (c - k)) w := fun w => by rw [run_slice_from_w _ _ under_bytes hi a hk w, hi1, hv2]
    have hkI : ¬ ((s.1.length : Int) < (k : Int)) := by omega
    have hkN : ¬ (s.1.length < k) := by omega
    clear hv2 hv hr hi hi1 hbd hn
    go_enter Tryd.func50, Tryd.ntmps50
    go_wp2_with fail
    go_ret
    exact PO.out
  · have PO := Lib.hid (take_lost hr hv hlow hbd (by omega : s.1.length < k))
    obtain ⟨a, c, rfl, hn, hm, hv⟩ := hv
    have hkN : s.1.length < k := by omega
    clear hv hr hi hi1 hbd hk
    go_enter Tryd.func50, Tryd.ntmps50
    go_wp2_with fail
    go_ret
    exact PO.out
end Go.Proofs.YtabdbciebhmflaaDoor
