/-
  A text's words ('str.lay'), its sound words ('str.sound'), the text that words spell ('str.text'); what fielded kinds answer.
  Conditions: as each states.
-/
import Derived.Test.YtnjpjhlodamanaaObA
import Derived.Test.YtnjpjhlodamanaaSlices
import Derived.StillTailTactics
import Derived.Laws.IdiomStrings
namespace Go.Proofs.Ytnjpjhlodamanaa
open Go.ChangeShapes Go.WideShapes Go.ChangeAt Go.RowKit
set_option linter.unusedVariables false
set_option linter.unusedSimpArgs false
set_option maxRecDepth 100000

theorem under_words' : Try.prog.underlying 30 = some (.slice 39) := by kernel_rfl
theorem info_word' : (Try.prog.info? 39).map (fun i => (i.zero, i.size, i.bytes)) = some (some (.int .u64 0), 1, 8) := by kernel_rfl
/-- A row of so many words, all 0. -/
theorem make_words (n : Nat) (hn : n ≤ 100000) (w : World) :
    (Instr.makeSlice 30 (.int .i64 (n : Int)) (.int .i64 (n : Int))).run Try.prog w = .ok (.slice (some ⟨w.heap.size, 0, none⟩) n n) (w.alloc (.cells ⟨List.replicate n (.int .u64 0)⟩ 39)) := by
  obtain ⟨i, hi, hz0, hz1, hz2⟩ := info_parts info_word'
  have hb : (i.bytes : Int) * (n : Int) ≤ 281474976710656 := by rw [hz2]; omega
  have hr := run_make (P := Try.prog) w 30 39 i (.int .u64 0) under_words' hi hz0 .i64 .i64 n n (by omega) (by omega) hb (by omega)
  simp only [Int.toNat_natCast] at hr
  rw [hr, hz1, Nat.mul_one]
  have e : madeCells (Value.int .u64 0).cells n = ⟨List.replicate n (.int .u64 0)⟩ := by
    apply Array.toList_inj.1
    exact toList_madeCells_one _ _
  rw [e]

def packN (tx : List UInt8) (n k : Nat) : List Int := (List.range n).map (packW (tx.take k))

theorem pow_eight (r : Nat) : (2 : Int) ^ (r * 8) = 256 ^ r := by
  rw [Nat.mul_comm, Int.pow_mul]
  rfl

theorem packN_step (tx : List UInt8) (n k : Nat) (hk : k < tx.length) (hn : n = (tx.length + 7) / 8) :
    packN tx n (k + 1) = (packN tx n k).set (k / 8) (packW (tx.take k) (k / 8) + 256 ^ (k % 8) * (tx[k].toNat : Int)) := by
  apply List.ext_getElem
  · simp [packN]
  · intro j h1 h2
    have hj : j < n := by simpa [packN] using h1
    simp only [packN, List.getElem_map, List.getElem_range, List.getElem_set]
    have hlt : (tx.take k).length = k := by rw [List.length_take]; omega
    by_cases he : k / 8 = j
    · rw [if_pos he]
      subst he
      unfold packW
      rw [List.take_succ_eq_append_getElem hk, List.drop_append_of_le_length (by omega), List.take_append]
      have h3 : ((tx.take k).drop (8 * (k / 8))).length = k % 8 := by rw [List.length_drop, hlt]; omega
      rw [h3, ofBytes_append]
      have h4 : (((tx.take k).drop (8 * (k / 8))).take 8).length = k % 8 := by rw [List.length_take, h3]; omega
      rw [h4]
      congr 1
      have h5 : [tx[k]].take (8 - k % 8) = [tx[k]] := List.take_of_length_le (by simp; omega)
      rw [h5]
      simp [ofBytes]
    · rw [if_neg he]
      unfold packW
      congr 1
      by_cases hc : 8 * j + 8 ≤ k
      · rw [List.take_succ_eq_append_getElem hk, List.drop_append_of_le_length (by omega), List.take_append_of_le_length (by rw [List.length_drop]; omega)]
      · have : k + 1 ≤ 8 * j := by omega
        rw [List.drop_eq_nil_of_le (by rw [List.length_take]; omega), List.drop_eq_nil_of_le (by rw [List.length_take]; omega)]
theorem packN_zero (tx : List UInt8) (n : Nat) : packN tx n 0 = List.replicate n 0 := by
  apply List.ext_getElem
  · simp [packN]
  · intro j h1 h2
    simp [packN, packW, ofBytes]
theorem packN_all (tx : List UInt8) : packN tx ((tx.length + 7) / 8) tx.length = pack tx := by
  unfold packN pack
  rw [List.take_of_length_le (Nat.le_refl _)]
theorem packN_low (tx : List UInt8) (k : Nat) (hk : k < tx.length) : 0 ≤ packW (tx.take k) (k / 8) ∧ packW (tx.take k) (k / 8) < 256 ^ (k % 8) := by
  unfold packW
  refine ⟨ofBytes_nonneg _, ?_⟩
  have h := ofBytes_lt (((tx.take k).drop (8 * (k / 8))).take 8)
  have hl : (((tx.take k).drop (8 * (k / 8))).take 8).length = k % 8 := by simp; omega
  rwa [hl] at h
theorem or_byte (x : Int) (y r : Nat) (hr : r < 8) (hx : 0 ≤ x ∧ x < 256 ^ r) (hy : y < 256) : bits .or .u64 x ((y : Int) * 2 ^ (r * 8)) = x + 256 ^ r * (y : Int) := by
  rw [pow_eight]
  have hp : (256 : Int) ^ r * 256 ≤ 18446744073709551616 := by
    rw [← Int.pow_succ]
    have h1 : 256 ^ (r + 1) ≤ 256 ^ 8 := Nat.pow_le_pow_right (by decide) (by omega)
    have h2 : ((256 ^ (r + 1) : Nat) : Int) ≤ ((256 ^ 8 : Nat) : Int) := Int.ofNat_le.2 h1
    simpa using h2
  have hpp := pow256_pos r
  have hle : (y : Int) * 256 ^ r ≤ 255 * 256 ^ r := Int.mul_le_mul_of_nonneg_right (by omega) (Int.le_of_lt hpp)
  have h0 : 0 ≤ (y : Int) * 256 ^ r := Int.mul_nonneg (by omega) (Int.le_of_lt hpp)
  rw [or_apart x _ (r * 8) hx.1 (by rw [pow_eight]; exact hx.2) h0 (by rw [pow_eight]; exact Int.mul_emod_left ..) (by omega)]
  rw [Int.mul_comm (y : Int)]

theorem or_byte' (x : Int) (y k : Nat) (hx : 0 ≤ x ∧ x < 256 ^ (k % 8)) (hy : y < 256) :
    bits .or .u64 x (IntKind.u64.wrap ((y : Int) * 2 ^ (k % 8 * 8))) = x + 256 ^ (k % 8) * (y : Int) := by
  have hr : k % 8 < 8 := Nat.mod_lt _ (by decide)
  have hpp := pow256_pos (k % 8)
  have hp : (256 : Int) ^ (k % 8) ≤ 256 ^ 7 := by
    have h1 : 256 ^ (k % 8) ≤ 256 ^ 7 := Nat.pow_le_pow_right (by decide) (by omega)
    have h2 : ((256 ^ (k % 8) : Nat) : Int) ≤ ((256 ^ 7 : Nat) : Int) := Int.ofNat_le.2 h1
    simpa using h2
  have hle : (y : Int) * 256 ^ (k % 8) ≤ 255 * 256 ^ (k % 8) := Int.mul_le_mul_of_nonneg_right (by omega) (Int.le_of_lt hpp)
  have h0 : 0 ≤ (y : Int) * 256 ^ (k % 8) := Int.mul_nonneg (by omega) (Int.le_of_lt hpp)
  have e3 : IntKind.u64.wrap ((y : Int) * 2 ^ (k % 8 * 8)) = (y : Int) * 2 ^ (k % 8 * 8) := by
    rw [pow_eight, IntKind.wrap_u64]
    exact Int.emod_eq_of_lt h0 (by omega)
  rw [e3]
  exact or_byte x y (k % 8) hr hx hy

theorem lay_str (t : Int) (a : Option Addr) (nf c : Nat) (s : ByteArray) (hs : s.size ≤ 100000) (w : World) :
    Calls Try.prog 85 #[.agg #[], .agg #[.int .i64 2, .int .i64 t, .slice a nf c, .string s]] w fun e w' =>
      ∃ v, e = .returned v ∧ w'.ownsRow w.heap.size 39 1 v (pack s.data.toList).length ((pack s.data.toList).map (Value.int .u64)) ∧ Below w.heap.size w w' := by
  obtain ⟨m, hm⟩ : ∃ m, m = (s.size + 7) / 8 := ⟨_, rfl⟩
  have hsz : s.data.toList.length = s.size := by rw [Lib.size_eq]
  have hmk := make_words m (by omega)
  have HL := Lib.hid (long_s s.size (by omega))
  rw [← hm] at HL
  have hm8 : s.size ≤ m * 8 := by omega
  have hm9 : m ≤ 100000 := by omega
  have HM := Lib.hid hm
  have HSZ := Lib.hid hsz
  clear hm hsz
  go_enter Try.func85, Try.ntmps85
  go_wp2_with fail
  refine (HL.out _).mono ?_
  rintro e w1 ⟨rfl, b1⟩
  have hz := b1.size
  simp at hz
  obtain ⟨hc, hf⟩ := bcell b1
  have hz0 : w.heap.size + 1 < w1.heap.size := by omega
  have HB1 : Hid (Below w.heap.size w w1) := bl_call (bl_alloc (bl_alloc (Below.refl _ _) _) _) b1
  have d3 : w1.cell? ⟨w.heap.size + 1, 3, none⟩ = some (.string s) := by rw [hc _ _ (by simp)]; simp [go_sem]
  have HD3 := Lib.hid d3
  clear hc hf b1
  go_wp2
  go_loopw [16] (fun i wr => ∃ k : Nat, k ≤ s.size ∧ i = .int .i64 k ∧ Hid (rowAt wr w1.heap.size 39 ((packN s.data.toList m k).map (Value.int .u64)) ∧ Below w1.heap.size w1 wr)) (fun i _ => s.size - (intOf i).toNat)
  case atStart => exact ⟨0, Nat.zero_le _, rfl, by rw [packN_zero, List.map_replicate]; exact rowAt.made _ _ _, (Below.refl _ _).alloc (Nat.le_refl _) _⟩
  case round =>
    obtain ⟨k, hk, rfl, HR⟩ := hrel
    by_cases hlt : k < s.size
    · have e3 : wr.cell? ⟨w.heap.size + 1, 3, none⟩ = some (.string s) := (HR.out.2.cell (p := ⟨w.heap.size + 1, 3, none⟩) hz0).trans HD3.out
      have hk8 : k / 8 < m := by omega
      have e4 : wr.cell? ⟨w1.heap.size, k / 8, none⟩ = some (.int .u64 (packW (s.data.toList.take k) (k / 8))) := by
        rw [HR.out.1.cell, List.getElem?_map, packN, List.getElem?_map, List.getElem?_range hk8]
        rfl
      have f4 : wr.frozen? ⟨w1.heap.size, k / 8, none⟩ = false := HR.out.1.free _
      have hbyte : (s[k].toNat : Int) < 256 := by have := s[k].toNat_lt; omega
      have q1 : IntKind.i64.wrap ((k : Int) / 8) = (k : Int) / 8 := by rw [IntKind.wrap_i64]; omega
      have q2 : 0 ≤ (k : Int) / 8 := by omega
      have q3 : (k : Int) / 8 < m := by omega
      have q4 : ((k : Int) / 8).toNat = k / 8 := by omega
      go_wp2
      refine wp_region_still_tail 14 (by kernel_rfl) (by kernel_rfl) ?_
      simp only [List.take_succ_cons, List.take_zero, List.drop_succ_cons, List.drop_zero]
      iterate 11 still_step
      still_call ((low_any k (by omega) _).mono fun _ _ h => ⟨h.1, h.2.symm⟩)
      iterate 2 still_step
      refine wpStill_nil ?_
      change wpList _ _ _ _ _ wr.drew
      have HN := Lib.hid (or_byte' (packW (s.data.toList.take k) (k / 8)) (s[k].toNat) k (packN_low s.data.toList k (by rw [HSZ.out]; exact hlt)) (by have := s[k].toNat_lt; omega))
      have HST := Lib.hid (packN_step s.data.toList m k (by rw [HSZ.out]; exact hlt) (by rw [HSZ.out]; exact HM.out))
      have hge : w1.heap.size ≤ w1.heap.size := Nat.le_refl _
      go_wp2
      go_roundw
      case rel =>
        refine ⟨k + 1, by omega, by go_num, ?_, ?_⟩
        · rw [HST.out, List.map_set, HN.out]
          show rowAt _ _ _ (List.set _ (k / 8) (Value.int .u64 (packW (s.data.toList.take k) (k / 8) + 256 ^ (k % 8) * (s[k].toNat : Int))))
          exact rowAt.set (w := wr.drew) HR.out.1 (k / 8) _
        · exact bl_set (bl_drew HR.out.2) (Nat.le_refl _) _
      case measure => simp [intOf]; omega
    · have hke : k = s.size := by omega
      subst hke
      have HP : Hid (rowAt wr w1.heap.size 39 ((pack s.data.toList).map (Value.int .u64)) ∧ (pack s.data.toList).length = m) := by
        refine ⟨?_, by rw [pack_length, HSZ.out, HM.out]⟩
        have := HR.out.1
        rw [HM.out, ← HSZ.out, packN_all] at this
        exact this
      go_wp2
      go_ret
      refine ⟨_, rfl, ?_, bl_call HB1.out HR.out.2⟩
      rw [HP.out.2]
      exact owns_mk (rest := []) (by rw [List.append_nil]; exact HP.out.1) HB1.out.size (by rw [List.length_map, HP.out.2, Nat.mul_one]) (by rw [List.length_map, HP.out.2]; simp) (Nat.le_refl _) (by unfold maxLen; omega)

theorem sound_str0 (s : Nat) (ad : Option Addr) (n c : Nat) (w : World) (hs : s ≤ 100000) (h0 : s % 8 = 0) :
    Calls Try.prog 89 #[.agg #[], .slice ad n c, .int .i64 s] w fun e w' => e = .returned (.bool true) ∧ Below w.heap.size w w' := by
  have h1 : ((s : Int) % 8 * 8 == 0) = true := by simp; omega
  clear h0
  go_enter Try.func89, Try.ntmps89
  go_wp2_with fail
  refine (low_any s (by omega) _).mono ?_
  rintro e w1 ⟨rfl, rfl⟩
  go_wp2
  go_ret
  exact ⟨rfl, bl_alloc (Below.refl _ _) _⟩

theorem sound_str (s : Nat) (b o c : Nat) (xs : List Int) (hn : xs.length = (s + 7) / 8) (w : World) (hs : s ≤ 100000) (hx : ∀ x ∈ xs, fitW x) (hr : ∀ j u, (xs.map (Value.int .u64))[j]? = some u → w.cell? ⟨b, o + j, none⟩ = some u) :
    Calls Try.prog 89 #[.agg #[], .slice (some ⟨b, o, none⟩) xs.length c, .int .i64 s] w fun e w' => e = .returned (.bool (soundH 2 xs s)) ∧ Below w.heap.size w w' := by
  by_cases h0 : s % 8 = 0
  · have hr : soundH 2 xs s = true := by simp [soundH, h0]
    rw [hr]
    exact sound_str0 s _ _ c w hs h0
  · have h1 : ((s : Int) % 8 * 8 == 0) = false := by simp; omega
    have hlt : s / 8 < xs.length := by omega
    have hcell : w.cell? ⟨b, o + s / 8, none⟩ = some (.int .u64 xs[s / 8]) := hr _ _ (by rw [List.getElem?_map, List.getElem?_eq_getElem hlt]; rfl)
    have hb : b < w.heap.size := World.block_lt_of_cell? w _ hcell
    have hfit := hx _ (List.getElem_mem hlt)
    obtain ⟨hx0, hx1⟩ := hfit
    have hg : xs.getD (s / 8) 0 = xs[s / 8] := by rw [List.getD_eq_getElem?_getD, List.getElem?_eq_getElem hlt]; rfl
    generalize xs[s / 8] = X at *
    have HS : Hid (soundH 2 xs s = decide (X / 256 ^ (s % 8) = 0)) := by
      show soundH 2 xs s = _
      simp only [soundH, ← hg]
      simp [h0]
    have h8 : s % 8 < 8 := Nat.mod_lt _ (by decide)
    rw [HS.out]
    clear h0 hn hr hx hg HS
    go_enter Try.func89, Try.ntmps89
    go_wp2_with fail
    refine (low_any s (by omega) _).mono ?_
    rintro e w1 ⟨rfl, rfl⟩
    go_wp2
    go_ret
    refine ⟨ret_bool ?_, bl_alloc (Below.refl _ _) _⟩
    rw [pow_eight]; rfl

theorem under_bytes : Try.prog.underlying 134 = some (.slice 5) := by kernel_rfl
theorem under_byte : Try.prog.underlying 5 = some (.int .u8) := by kernel_rfl
theorem under_string : Try.prog.underlying 9 = some .string := by kernel_rfl
theorem info_byte : (Try.prog.info? 5).map (fun i => (i.zero, i.size, i.bytes)) = some (some (.int .u8 0), 1, 1) := by kernel_rfl
theorem make_bytes (n : Nat) (hn : n ≤ 100000) (w : World) :
    (Instr.makeSlice 134 (.int .i64 (n : Int)) (.int .i64 (n : Int))).run Try.prog w = .ok (.slice (some ⟨w.heap.size, 0, none⟩) n n) (w.alloc (.cells ⟨List.replicate n (.int .u8 0)⟩ 5)) := by
  obtain ⟨i, hi, hz0, hz1, hz2⟩ := info_parts info_byte
  have hb : (i.bytes : Int) * (n : Int) ≤ 281474976710656 := by rw [hz2]; omega
  have hr := run_make (P := Try.prog) w 134 5 i (.int .u8 0) under_bytes hi hz0 .i64 .i64 n n (by omega) (by omega) hb (by omega)
  simp only [Int.toNat_natCast] at hr
  rw [hr, hz1, Nat.mul_one]
  have e : madeCells (Value.int .u8 0).cells n = ⟨List.replicate n (.int .u8 0)⟩ := by
    apply Array.toList_inj.1
    exact toList_madeCells_one _ _
  rw [e]

/-- The bytes told so far, and noughts. -/
def byteN (body : List Int) (n k : Nat) : List UInt8 := unpack body k ++ List.replicate (n - k) 0
theorem byteN_step (body : List Int) (n k : Nat) (hk : k < n) : byteN body n (k + 1) = (byteN body n k).set k (byteAt body k) := by
  unfold byteN
  have h1 : List.replicate (n - k) (0 : UInt8) = 0 :: List.replicate (n - (k + 1)) 0 := by
    rw [show n - k = (n - (k + 1)) + 1 by omega]
    rfl
  rw [h1, List.set_append, if_neg (by rw [length_unpack]; omega), length_unpack, Nat.sub_self, List.set_cons_zero]
  unfold unpack
  rw [List.range_succ, List.map_append, List.append_assoc]
  rfl
theorem byteN_length (body : List Int) (n k : Nat) (hk : k ≤ n) : (byteN body n k).length = n := by
  unfold byteN
  rw [List.length_append, length_unpack, List.length_replicate]
  omega
theorem byteAt_eq (body : List Int) (k : Nat) (x : Int) (hx : body.getD (k / 8) 0 = x) (h0 : 0 ≤ x) : ((byteAt body k).toNat : Int) = x / 2 ^ (k % 8 * 8) % 256 := by
  unfold byteAt
  rw [hx, pow_eight]
  have : 0 ≤ x / 256 ^ (k % 8) % 256 ∧ x / 256 ^ (k % 8) % 256 < 256 := by
    have := Int.emod_nonneg (x / 256 ^ (k % 8)) (by decide : (256 : Int) ≠ 0)
    have := Int.emod_lt_of_pos (x / 256 ^ (k % 8)) (by decide : (0 : Int) < 256)
    omega
  simp only [UInt8.toNat_ofNat']
  omega

theorem text_str0 (ad : Option Addr) (m c : Nat) (w : World) :
    Calls Try.prog 90 #[.agg #[], .slice ad m c, .int .i64 0] w fun e w' => e = .returned (.string ⟨#[]⟩) ∧ Below w.heap.size w w' := by
  have hmk : ∀ w : World, (Instr.makeSlice 134 (.int .i64 0) (.int .i64 0)).run Try.prog w = .ok (.slice (some ⟨w.heap.size, 0, none⟩) 0 0) (w.alloc (.cells #[] 5)) := fun w => make_bytes 0 (by omega) w
  have hcv : ∀ (w : World) (g : Nat), (convert 134 9 (.slice (some ⟨g, 0, none⟩) 0 0)).run Try.prog w = .ok (.string ⟨#[]⟩) w := fun w g =>
    run_convert_bytes_back (P := Try.prog) w 134 9 5 ⟨g, 0, none⟩ 0 [] under_bytes under_byte under_string (fun j hj => by cases hj)
  go_enter Try.func90, Try.ntmps90
  go_wp2
  go_rounds 1
  go_ret
  exact ⟨rfl, by repeat (first | exact Below.refl _ _ | refine bl_alloc ?_ _)⟩

theorem text_str (n : Nat) (b o c : Nat) (xs : List Int) (hn : xs.length = (n + 7) / 8) (w : World) (hs : n ≤ 100000) (hx : ∀ x ∈ xs, fitW x) (hr : ∀ j u, (xs.map (Value.int .u64))[j]? = some u → w.cell? ⟨b, o + j, none⟩ = some u) :
    Calls Try.prog 90 #[.agg #[], .slice (some ⟨b, o, none⟩) xs.length c, .int .i64 n] w fun e w' => e = .returned (.string ⟨(unpack xs n).toArray⟩) ∧ Below w.heap.size w w' := by
  have hmk := make_bytes n hs
  have HN := Lib.hid hn
  have hn8 : n ≤ xs.length * 8 := by omega
  have HX := Lib.hid hx
  have HR0 : Hid (∀ j u, (xs.map (Value.int .u64))[j]? = some u → w.cell? ⟨b, o + j, none⟩ = some u) := hr
  clear hn hx hr
  go_enter Try.func90, Try.ntmps90
  go_wp2
  go_loopw [13] (fun i wr => ∃ k : Nat, k ≤ n ∧ i = .int .i64 k ∧ Hid (rowAt wr (w.heap.size + 1) 5 ((byteN xs n k).map fun x => Value.int .u8 (x.toNat : Int)) ∧ Below w.heap.size w wr)) (fun i _ => n - (intOf i).toNat)
  case atStart =>
    refine ⟨0, Nat.zero_le _, rfl, ?_, ?_⟩
    · have := rowAt.made_at (w := w.alloc (.cells #[] 112)) (b := w.heap.size + 1) 5 (List.replicate n (.int .u8 0)) (by simp)
      simpa [byteN, unpack] using this
    · repeat (first | exact Below.refl _ _ | refine bl_alloc ?_ _)
  case round =>
    obtain ⟨k, hk, rfl, HR⟩ := hrel
    by_cases hlt : k < n
    · have hk8 : k / 8 < xs.length := by have := HN.out; omega
      have e0 : w.cell? ⟨b, o + k / 8, none⟩ = some (.int .u64 xs[k / 8]) := HR0.out _ _ (by rw [List.getElem?_map, List.getElem?_eq_getElem hk8]; rfl)
      have e1 : wr.cell? ⟨b, o + k / 8, none⟩ = some (.int .u64 xs[k / 8]) := (HR.out.2.cell (p := ⟨b, o + k / 8, none⟩) (World.block_lt_of_cell? w _ e0)).trans e0
      have hfit := HX.out _ (List.getElem_mem hk8)
      have HBY : Hid (((byteAt xs k).toNat : Int) = xs[k / 8] / 2 ^ (k % 8 * 8) % 256) := byteAt_eq xs k _ (by rw [List.getD_eq_getElem?_getD, List.getElem?_eq_getElem hk8]; rfl) hfit.1
      have hx0 := hfit.1
      have hx1 := hfit.2
      clear e0 hfit
      generalize xs[k / 8] = X at *
      have e2 : (wr.cell? ⟨w.heap.size + 1, k, none⟩).isSome = true := HR.out.1.cell_there k (by rw [List.length_map, byteN_length _ _ _ hk]; exact hlt)
      obtain ⟨v2, e3⟩ := Option.isSome_iff_exists.1 e2
      have f3 : wr.frozen? ⟨w.heap.size + 1, k, none⟩ = false := HR.out.1.free _
      have q1 : IntKind.i64.wrap ((k : Int) / 8) = (k : Int) / 8 := by rw [IntKind.wrap_i64]; omega
      have q2 : 0 ≤ (k : Int) / 8 := by omega
      have q3 : (k : Int) / 8 < xs.length := by omega
      have q4 : ((k : Int) / 8).toNat = k / 8 := by omega
      clear e2
      go_wp2
      refine wp_region_still_tail 12 (by kernel_rfl) (by kernel_rfl) ?_
      simp only [List.take_succ_cons, List.take_zero, List.drop_succ_cons, List.drop_zero]
      iterate 8 still_step
      still_call ((low_any k (by omega) _).mono fun _ _ h => ⟨h.1, h.2.symm⟩)
      iterate 3 still_step
      refine wpStill_nil ?_
      change wpList _ _ _ _ _ wr.drew
      have HST := Lib.hid (byteN_step xs n k hlt)
      have hge : w.heap.size ≤ w.heap.size + 1 := Nat.le_succ _
      go_wp2
      go_roundw
      case rel =>
        refine ⟨k + 1, by omega, by go_num, ?_, ?_⟩
        · rw [HST.out, List.map_set, HBY.out]
          exact rowAt.set (w := wr.drew) HR.out.1 k _
        · exact bl_set (bl_drew HR.out.2) hge _
      case measure => simp [intOf]; omega
    · obtain rfl : k = n := by omega
      have hbn : byteN xs k k = unpack xs k := by simp [byteN]
      have hul := length_unpack xs k
      have hrow := HR.out.1
      rw [hbn] at hrow
      have hcv : (convert 134 9 (.slice (some ⟨w.heap.size + 1, 0, none⟩) k k)).run Try.prog wr = .ok (.string ⟨(unpack xs k).toArray⟩) wr := by
        have h := run_convert_bytes_back (P := Try.prog) wr 134 9 5 ⟨w.heap.size + 1, 0, none⟩ k (unpack xs k) under_bytes under_byte under_string (fun j hj => by
          rw [Addr.add_lit, hrow.cell, Nat.zero_add, List.getElem?_map, List.getElem?_eq_getElem hj]
          rfl)
        rwa [hul] at h
      clear hrow hbn hul
      go_wp2
      go_ret
      exact ⟨rfl, HR.out.2⟩
end Go.Proofs.Ytnjpjhlodamanaa
