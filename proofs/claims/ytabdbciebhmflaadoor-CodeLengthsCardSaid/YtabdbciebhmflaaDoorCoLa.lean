/-
  What the laws of package code lean on: plain facts, small steps of memory.
  Conditions: as each states.
-/
import Derived.Test.YtabdbciebhmflaaDoorCoWk
namespace Go.Proofs.YtabdbciebhmflaaDoor
open Go.ChangeShapes Go.WideShapes Go.ChangeAt Go.RowKit
set_option linter.unusedVariables false
set_option linter.unusedSimpArgs false
set_option maxRecDepth 100000

theorem decPr_fit {l : List Int} (hb : ∀ z ∈ l, 0 ≤ z ∧ z < 256) : prF (decPr l) := by
  unfold decPr
  split
  · exact rdPr_fit _ hb
  · exact pz_fit
theorem dec_zero {l : List Int} (h : decB l = false) : decPr l = ([], [], []) := by unfold decPr; rw [if_neg (by rw [h]; decide)]
theorem PRe.sizes {P : PPr} (h : PRe P) : prS P := by
  have e := reach_eq
  exact ⟨by have := h.n1; omega, by have := h.n2; omega, by have := h.n3; omega, fun f hf => by have := h.fn f hf; omega, fun f hf => by have := h.fm f hf; omega⟩
theorem good_sizes {P : PPr} (h : prG P = true) : prS P := by
  obtain ⟨g1, g2, g3, G1, G2, G3⟩ := prG_parts h
  exact ⟨by omega, by omega, by omega, fun f hf => by have := (fnG_parts (G1 f hf)).2.2.2.1; omega, fun m hm => by have := fmG_cons (G3 m hm); omega⟩
theorem encPr_len {P : PPr} (h : prG P = true) : 3 ≤ (encPr P).length ∧ (encPr P).length ≤ 400000 := by
  obtain ⟨g1, g2, g3, G1, G2, G3⟩ := prG_parts h
  have l1 := flatMap_len encFn 6004 P.1 fun f hf => encFn_length (fnG_parts (G1 f hf)).2.2.2.1
  have l2 := flatMap_len encStr 61 P.2.1 fun f hf => encStr_length (G2 f hf)
  have l3 := flatMap_len encFm 24 P.2.2 fun f hf => encFm_length (fmG_cons (G3 f hf))
  rw [encPr_eq]
  simp only [headI, List.length_append, bytesOf_length]
  omega
theorem encX_good {P : PPr} (h : prG P = true) : encX P = encPr P := if_pos h
theorem encX_bad {P : PPr} (h : prG P = false) : encX P = [] := if_neg (by rw [h]; decide)
theorem enc_inj {P Q : PPr} (hP : prG P = true) (hQ : prG Q = true) (h : encPr P = encPr Q) : P = Q := by
  rw [← (dec_enc hP).2, ← (dec_enc hQ).2, h]

theorem xor8 (a b : Nat) (ha : a < 256) (hb : b < 256) : bits .xor .u8 (a : Int) (b : Int) = ((a ^^^ b : Nat) : Int) := by
  have hx : a ^^^ b < 2 ^ 8 := Nat.xor_lt_two_pow (by omega) (by omega)
  have h1 : (BitVec.ofInt 8 (a : Int)).toNat = a := by rw [BitVec.ofInt_natCast, BitVec.toNat_ofNat]; exact Nat.mod_eq_of_lt (by omega)
  have h2 : (BitVec.ofInt 8 (b : Int)).toNat = b := by rw [BitVec.ofInt_natCast, BitVec.toNat_ofNat]; exact Nat.mod_eq_of_lt (by omega)
  show IntKind.u8.wrap ((BitVec.ofInt 8 (a : Int) ^^^ BitVec.ofInt 8 (b : Int)).toNat : Int) = _
  rw [BitVec.toNat_xor, h1, h2, IntKind.wrap_u8]
  omega
theorem xor8_bd {a b : Int} (ha : 0 ≤ a ∧ a < 256) (hb : 0 ≤ b ∧ b < 256) : 0 ≤ bits .xor .u8 a b ∧ bits .xor .u8 a b < 256 := by
  obtain ⟨m, rfl⟩ := Int.eq_ofNat_of_zero_le ha.1
  obtain ⟨n, rfl⟩ := Int.eq_ofNat_of_zero_le hb.1
  rw [xor8 m n (by omega) (by omega)]
  have hx : m ^^^ n < 2 ^ 8 := Nat.xor_lt_two_pow (by omega) (by omega)
  omega
theorem xor8_same {a b : Int} (ha : 0 ≤ a ∧ a < 256) (hb : 0 ≤ b ∧ b < 256) : bits .xor .u8 a b = a ↔ b = 0 := by
  obtain ⟨m, rfl⟩ := Int.eq_ofNat_of_zero_le ha.1
  obtain ⟨n, rfl⟩ := Int.eq_ofNat_of_zero_le hb.1
  rw [xor8 m n (by omega) (by omega)]
  constructor
  · intro h
    have h1 : m ^^^ n = m := by omega
    have h2 : m ^^^ (m ^^^ n) = 0 := by rw [h1, Nat.xor_self]
    rw [← Nat.xor_assoc, Nat.xor_self, Nat.zero_xor] at h2
    omega
  · intro h
    have h1 : n = 0 := by omega
    subst h1
    simp

theorem own_empty {w : World} {T : TypeId} : (w.alloc (.cells #[] T)).ownsRow 0 T 1 (.slice (some ⟨w.heap.size, 0, none⟩) 0 0) 0 [] :=
  owns_mk (rest := []) (rowAt.made w T []) (Nat.zero_le _) rfl rfl (Nat.le_refl _) (Nat.zero_le _)
theorem own_emptyB {w : World} {T : TypeId} : (w.alloc (.cells #[] T)).ownsRow w.heap.size T 1 (.slice (some ⟨w.heap.size, 0, none⟩) 0 0) 0 [] :=
  owns_mk (rest := []) (rowAt.made w T []) (Nat.le_refl _) rfl rfl (Nat.le_refl _) (Nat.zero_le _)
theorem own_empty' {w : World} {T : TypeId} : w.ownsRow 0 T 1 (.slice none 0 0) 0 [] := World.ownsRow_nil _ _ _ 1
/-- A row of bytes of the call's own, as what is appended. -/
theorem src_bytes {B0 : Nat} {w : World} {a : Option Addr} {n c : Nat} {l : List Int} (h : bySl B0 w (.slice a n c) l) : n = l.length ∧ (n = 0 ∨ ∃ ad, a = some ad ∧ ∀ j u, (bytesL l)[j]? = some u → w.cell? (ad.add j) = some u) := by
  obtain ⟨a', c', e, h1, h2, h⟩ := h
  cases e
  refine ⟨rfl, h.imp_right fun ⟨b, o, e, hb, hb2, hc⟩ => ⟨_, e, fun j u hj => ?_⟩⟩
  rw [List.getElem?_map] at hj
  obtain ⟨z, hz, rfl⟩ := Option.map_eq_some_iff.1 hj
  rw [Addr.add_lit]
  exact hc j z hz
theorem oneCell_bytes (l : List Int) : ∀ v ∈ bytesL l, v.oneCell' = true := by
  intro v hv
  obtain ⟨z, _, rfl⟩ := List.mem_map.1 hv
  rfl
theorem bySl.own {w : World} {B : Nat} {v : Value} {n : Nat} {l : List Int} (h : w.ownsRow B 5 1 v n (bytesL l)) (hn : n = l.length) : bySl w.heap.size w v l := bySl.of_owns h hn fun g hg => (own_ge h g hg).2
theorem idx_bytes (g n c K : Nat) (h : K < n) (w : World) : (Instr.indexAt 27 (.slice (some ⟨g, 0, none⟩) n c) (.int .i64 (K : Int))).run Tryd.prog w = .ok (.pointer (some ⟨g, K, none⟩)) w := by
  obtain ⟨i, hi, hi1⟩ := byte_info
  have he : Tryd.prog.elem 27 = 5 := by kernel_rfl
  rw [run_indexAt_slice w 27 ⟨g, 0, none⟩ n c .i64 (K : Int) (by rw [he]; exact under_bytes)]
  have h1 : (0 : Int) ≤ K ∧ (K : Int) < n := by omega
  simp [he, sizeOf, typeInfo, hi, hi1, h1, Addr.add_lit, h]
end Go.Proofs.YtabdbciebhmflaaDoor
