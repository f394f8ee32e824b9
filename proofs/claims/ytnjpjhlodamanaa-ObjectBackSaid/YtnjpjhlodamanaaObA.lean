/-
  What the kinds of objects answer, an object's head, how many words it takes.
  Conditions: as each states.
-/
import Derived.Test.YtnjpjhlodamanaaOb
import Derived.Test.YtnjpjhlodamanaaKeep
import Derived.WalkSpells
import Derived.Deep.QuietTactic
import Derived.BigQuiet
import Derived.Outline
import Derived.Lib.Bytes
namespace Go.Proofs.Ytnjpjhlodamanaa
open Go.ChangeShapes Go.WideShapes Go.ChangeAt Go.RowKit
set_option linter.unusedVariables false
set_option linter.unusedSimpArgs false
set_option maxRecDepth 100000

/-! What a world keeps behind a call; the steps of a walk, backwards. -/
theorem bcell {W w1 : World} (hb : Below W.heap.size W w1) : (∀ b o, b < W.heap.size → w1.cell? ⟨b, o, none⟩ = W.cell? ⟨b, o, none⟩) ∧ (∀ b o, b < W.heap.size → w1.frozen? ⟨b, o, none⟩ = W.frozen? ⟨b, o, none⟩) :=
  ⟨fun b o h => hb.cell (p := ⟨b, o, none⟩) h, fun b o h => hb.frozen (p := ⟨b, o, none⟩) h⟩
theorem bl_alloc {w W : World} (h : Below w.heap.size w W) (o : Obj) : Below w.heap.size w (W.alloc o) := h.alloc h.size o
theorem bl_drew {w W : World} (h : Below w.heap.size w W) : Below w.heap.size w W.drew := below_draws h 1
theorem bl_drewN {w W : World} (h : Below w.heap.size w W) (n : Nat) : Below w.heap.size w (W.drewN n) := below_draws h n
theorem bl_set {w W : World} (h : Below w.heap.size w W) {p : Addr} (hp : w.heap.size ≤ p.block) (v : Value) : Below w.heap.size w (W.setCell p v) := h.setCell hp v
theorem bl_call {w W W1 : World} (h : Below w.heap.size w W) (k : Below W.heap.size W W1) : Below w.heap.size w W1 := below_chain h k

def kindV (k : Int) : Value := if k = 1 then .iface 111 (.agg #[]) else if k = 2 then .iface 112 (.agg #[]) else if k = 3 then .iface 113 (.agg #[]) else if k = 4 then .iface 114 (.agg #[]) else .nilIface

theorem kindOf_any (k : Int) (w : World) :
    Calls Try.prog 44 #[.int .i64 k] w fun e w' => e = .returned (kindV k) ∧ w = w' := by
  by_cases h1 : k = 1
  · subst h1
    go_enter Try.func44, Try.ntmps44
    go_wp2
    go_ret
    exact ⟨rfl, rfl⟩
  by_cases h2 : k = 2
  · subst h2
    go_enter Try.func44, Try.ntmps44
    go_wp2
    go_ret
    exact ⟨rfl, rfl⟩
  by_cases h3 : k = 3
  · subst h3
    go_enter Try.func44, Try.ntmps44
    go_wp2
    go_ret
    exact ⟨rfl, rfl⟩
  by_cases h4 : k = 4
  · subst h4
    go_enter Try.func44, Try.ntmps44
    go_wp2
    go_ret
    exact ⟨rfl, rfl⟩
  have hv : kindV k = .nilIface := by simp [kindV, h1, h2, h3, h4]
  rw [hv]
  have e1 : (k == 1) = false := by simpa using h1
  have e2 : (k == 2) = false := by simpa using h2
  have e3 : (k == 3) = false := by simpa using h3
  have e4 : (k == 4) = false := by simpa using h4
  clear hv h1 h2 h3 h4
  go_enter Try.func44, Try.ntmps44
  go_wp2
  go_ret
  exact ⟨rfl, rfl⟩

theorem low_any (i : Nat) (hi : i ≤ 9000000000000000000) (w : World) :
    Calls Try.prog 91 #[.int .i64 i] w fun e w' => e = .returned (.int .i64 ((i % 8 * 8 : Nat) : Int)) ∧ w = w' := by
  go_enter Try.func91, Try.ntmps91
  go_wp2
  go_ret
  exact ⟨by simp, rfl⟩

/-- Words whose bits lie apart. -/
theorem or_apart (x y : Int) (m : Nat) (h0 : 0 ≤ x) (hx : x < 2 ^ m) (hy : 0 ≤ y) (hd : y % 2 ^ m = 0) (hs : x + y < 18446744073709551616) : bits .or .u64 x y = x + y := by
  obtain ⟨a, rfl⟩ := Int.eq_ofNat_of_zero_le h0
  obtain ⟨b, rfl⟩ := Int.eq_ofNat_of_zero_le hy
  have hx' : a < 2 ^ m := by
    have : ((2 ^ m : Nat) : Int) = 2 ^ m := by simp
    rw [← this] at hx
    exact Int.ofNat_lt.1 hx
  have hd' : b % 2 ^ m = 0 := by
    have : ((2 ^ m : Nat) : Int) = 2 ^ m := by simp
    rw [← this, ← Int.natCast_emod] at hd
    exact Int.ofNat_inj.1 hd
  have h := bits_or_u64_nat a b (by omega) (by omega)
  rw [h]
  obtain ⟨q, rfl⟩ : ∃ q, b = 2 ^ m * q := ⟨b / 2 ^ m, by have := Nat.div_add_mod b (2 ^ m); omega⟩
  have e : (a ||| 2 ^ m * q : Nat) = 2 ^ m * q + a := by
    rw [Nat.or_comm, ← Nat.two_pow_add_eq_or_of_lt hx' q]
  rw [e]
  omega

theorem word_any' (k t : Int) (s : Nat) (hk : 0 ≤ k ∧ k < 256) (ht : 0 ≤ t ∧ t < 16777216) (hs : s < 4294967296) (w : World) :
    Calls Try.prog 31 #[.agg #[.int .i64 k, .int .i64 t, .int .i64 s]] w fun e w' => e = .returned (.int .u64 (headW k t s)) ∧ Below w.heap.size w w' := by
  have h1 : bits .or .u64 (bits .or .u64 k (t * 256)) ((s : Int) * 4294967296) = headW k t s := by
    rw [or_apart k (t * 256) 8 hk.1 (by omega) (by omega) (by omega) (by omega), or_apart (k + t * 256) (s * 4294967296) 32 (by omega) (by omega) (by omega) (by omega) (by omega)]
    unfold headW
    omega
  have H1 := Lib.hid h1
  clear h1
  go_enter Try.func31, Try.ntmps31
  go_wp2
  go_ret
  exact ⟨ret_int H1.out, bl_alloc (Below.refl _ _) _⟩

theorem apart_any (x : Int) (hx : fitW x) (w : World) :
    Calls Try.prog 57 #[.int .u64 x] w fun e w' => e = .returned (.agg #[.int .i64 (hK x), .int .i64 (hT x), .int .i64 (hS x)]) ∧ Below w.heap.size w w' := by
  obtain ⟨h1, h2⟩ := hx
  have e : ((hS x : Nat) : Int) = x / 4294967296 := by unfold hS; omega
  have E := Lib.hid e
  clear e
  go_enter Try.func57, Try.ntmps57
  go_wp2
  refine bodyPost_ret (v := .agg #[.int .i64 (x % 256), .int .i64 (x % 4294967296 / 256), .int .i64 (x / 4294967296)]) (by simp [results, Try.results57, go_sem]) rfl ⟨?_, bl_alloc (Below.refl _ _) _⟩
  rw [E.out]
  rfl

theorem fsize_any (k : Int) (hk : k ≠ 2) (t : Int) (a : Option Addr) (nf c : Nat) (s : ByteArray) (w : World) :
    Calls Try.prog 80 #[.agg #[], .agg #[.int .i64 k, .int .i64 t, .slice a nf c, .string s]] w fun e w' => e = .returned (.tuple #[.int .i64 nf, .bool (hasH k nf s.size)]) ∧ Below w.heap.size w w' := by
  have h1 : s.toList.isEmpty = hasH k nf s.size := by
    unfold hasH
    rw [if_neg hk]
    rw [Lib.toList_data, Lib.size_eq]
    cases s.data.toList <;> simp
  have H1 := Lib.hid h1
  clear h1 hk
  go_enter Try.func80, Try.ntmps80
  go_wp2
  go_quiet (fail)
  go_wp2
  go_ret2
  refine ⟨?_, bl_drewN (bl_alloc (bl_alloc (Below.refl _ _) _) _) _⟩
  rw [← H1.out]
  rfl
theorem ssize_any (t : Int) (a : Option Addr) (nf c : Nat) (s : ByteArray) (w : World) :
    Calls Try.prog 88 #[.agg #[], .agg #[.int .i64 2, .int .i64 t, .slice a nf c, .string s]] w fun e w' => e = .returned (.tuple #[.int .i64 s.size, .bool (hasH 2 nf s.size)]) ∧ Below w.heap.size w w' := by
  have h1 : ((nf : Int) == 0) = hasH 2 nf s.size := by
    unfold hasH
    rw [if_pos rfl]
    cases nf <;> simp
    omega
  have H1 := Lib.hid h1
  clear h1
  go_enter Try.func88, Try.ntmps88
  go_wp2
  go_quiet (fail)
  go_wp2
  go_ret2
  refine ⟨?_, bl_drewN (bl_alloc (bl_alloc (Below.refl _ _) _) _) _⟩
  rw [← H1.out]
  rfl


theorem may1_any (t s : Int) (w : World) :
    Calls Try.prog 83 #[.agg #[], .int .i64 t, .int .i64 s] w fun e w' => e = .returned (.bool (mayH 1 t s)) ∧ Below w.heap.size w w' := by
  go_enter Try.func83, Try.ntmps83
  go_wp2
  all_goals
    go_ret
    refine ⟨ret_bool ?_, bl_alloc (Below.refl _ _) _⟩
    unfold mayH
    first | exact decide_eq_decide.2 (by omega) | (symm; exact decide_eq_true (by omega)) | (symm; exact decide_eq_false (by omega))

theorem may2_any (t s : Int) (w : World) :
    Calls Try.prog 87 #[.agg #[], .int .i64 t, .int .i64 s] w fun e w' => e = .returned (.bool (mayH 2 t s)) ∧ Below w.heap.size w w' := by
  go_enter Try.func87, Try.ntmps87
  go_wp2
  all_goals
    go_ret
    refine ⟨ret_bool ?_, bl_alloc (Below.refl _ _) _⟩
    unfold mayH
    first | exact decide_eq_decide.2 (by omega) | (symm; exact decide_eq_true (by omega)) | (symm; exact decide_eq_false (by omega))

theorem may3_any (t s : Int) (w : World) :
    Calls Try.prog 92 #[.agg #[], .int .i64 t, .int .i64 s] w fun e w' => e = .returned (.bool (mayH 3 t s)) ∧ Below w.heap.size w w' := by
  go_enter Try.func92, Try.ntmps92
  go_wp2
  all_goals
    go_ret
    refine ⟨ret_bool ?_, bl_alloc (Below.refl _ _) _⟩
    unfold mayH
    first | exact decide_eq_decide.2 (by omega) | (symm; exact decide_eq_true (by omega)) | (symm; exact decide_eq_false (by omega))

theorem may4_any (t s : Int) (w : World) :
    Calls Try.prog 93 #[.agg #[], .int .i64 t, .int .i64 s] w fun e w' => e = .returned (.bool (mayH 4 t s)) ∧ Below w.heap.size w w' := by
  go_enter Try.func93, Try.ntmps93
  go_wp2
  all_goals
    go_ret
    refine ⟨ret_bool ?_, bl_alloc (Below.refl _ _) _⟩
    unfold mayH
    first | exact decide_eq_decide.2 (by omega) | (symm; exact decide_eq_true (by omega)) | (symm; exact decide_eq_false (by omega))

theorem long_f (s : Nat) (w : World) :
    Calls Try.prog 79 #[.agg #[], .int .i64 s] w fun e w' => e = .returned (.int .i64 s) ∧ Below w.heap.size w w' := by
  go_enter Try.func79, Try.ntmps79
  go_wp2
  go_ret
  exact ⟨rfl, bl_alloc (Below.refl _ _) _⟩
theorem long_s (s : Nat) (hs : s ≤ 9000000000000000000) (w : World) :
    Calls Try.prog 86 #[.agg #[], .int .i64 s] w fun e w' => e = .returned (.int .i64 ((s + 7) / 8 : Nat)) ∧ Below w.heap.size w w' := by
  go_enter Try.func86, Try.ntmps86
  go_wp2
  go_ret
  refine ⟨ret_int ?_, bl_alloc (Below.refl _ _) _⟩
  rw [show ((s : Int) + 8 - 1) / 8 = (((s + 7) / 8 : Nat) : Int) by omega]

end Go.Proofs.Ytnjpjhlodamanaa
