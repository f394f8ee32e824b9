/-
  The document's words of an object (stockpotref03.Lay).
  Conditions: as each states.
-/
import Derived.Test.YtejbblhlbilpnaaZReA
namespace Go.Proofs.Ytejbblhlbilpnaa
set_option linter.unusedSimpArgs false
open Go.ChangeShapes Go.WideShapes Go.ChangeAt Go.RowKit
set_option maxRecDepth 100000

theorem empty_text {s : ByteArray} (h : s.size = 0) : s = ⟨#[]⟩ := by
  obtain ⟨d⟩ := s
  have : d.size = 0 := h
  congr 1
  exact Array.eq_empty_of_size_eq_zero this

set_option maxHeartbeats 4000000 in
theorem reLay_f (k t : Int) (a : Option Addr) (xs : List Int) (c : Nat) (s : ByteArray) (h : headR k t xs.length s.size = true) (hk : k ≠ 2) (w : World) (hr : readsAt w (.slice a xs.length c) xs.length (wordsL xs)) :
    Calls Try.prog 55 #[obj k t a xs.length c s] w fun e w' => ∃ v, e = .returned v ∧ w'.ownsRow w.heap.size 29 1 v (1 + xs.length) (wordsL (headW k t xs.length :: xs)) ∧ Below w.heap.size w w' := by
  have HH := Lib.hid (refHead_any k t a xs.length c s h)
  have h' := h
  simp only [headR, Bool.and_eq_true] at h'
  have e : sizeH k xs.length s.size = xs.length := by simp [sizeH, hk]
  rw [e] at HH h'
  have hb := mayH_bounds h'.2
  have hs0 : s.size = 0 := by have := h'.1; simpa [hasH, hk] using this
  obtain rfl := empty_text hs0
  obtain ⟨i0, hi, hz0, hz1, hz2⟩ := info_parts info_word
  obtain ⟨a', c', e0, hr⟩ := hr
  cases e0
  have HR := Lib.hid hr
  have hl : xs.length ≤ 400 := by omega
  clear e h h' hk hb hs0 hr
  obtain ⟨X, hX⟩ : ∃ X, X = headW k t xs.length := ⟨_, rfl⟩
  rw [← hX] at HH ⊢
  clear hX
  have HL := Lib.hid hl
  go_enter Try.func55, Try.ntmps55
  go_wp2_with fail
  refine (HH.out _).mono ?_
  rintro e w1 ⟨rfl, b1⟩
  have hc := (bcell b1).1 w.heap.size
  have hz := b1.size
  simp at hz
  have hzl : w.heap.size < w1.heap.size := by omega
  have HB := Lib.hid (bl_call (bl_alloc (Below.refl _ _) _) b1)
  have c0 := hc 0 (by simp)
  have c1 := hc 1 (by simp)
  have c2 := hc 2 (by simp)
  have c3 := hc 3 (by simp)
  clear hc b1
  simp [go_sem] at c0 c1 c2 c3
  go_wp2_with (at_builtin; refine wpList_append_any rfl _ _ 22 rfl w.heap.size 29 i0 (.int .u64 0) 1 8 under_words hi hz0 hz1 hz2 rfl (by decide) _ 1 (wordsL [X]) rfl (owns_mk (rest := []) (rowAt.made w1 29 (wordsL [X])) (by omega) rfl rfl (Nat.le_refl _) (by decide)) a xs.length c (wordsL xs) rfl ?q1 ?q2 ?q3 ?q4 ?q5 ?q6 ?_)
  case q1 => simp
  case q2 =>
    rcases HR.out with h0 | ⟨b, o, rfl, hcell⟩
    · exact .inl h0
    · refine .inr ⟨_, rfl, fun j u hj => ?_⟩
      have h1 := hcell j u hj
      have hbl := World.block_lt_of_cell? w _ h1
      rw [Addr.add_lit]
      exact Lib.cell?_alloc_some _ ((HB.out.cell (p := ⟨b, o + j, none⟩) hbl).trans h1)
  case q3 => exact oneCell_words xs
  case q4 => simp only [maxLen]; have := HL.out; omega
  case q5 => have := HL.out; omega
  case q6 => simp; omega
  intro v' w2 hown hgrow hblk
  have HO := Lib.hid hown
  have HB2 : Hid (Below w.heap.size w w2) := (bl_alloc HB.out _).grown hgrow (by simp; omega) (by intro q hq; simp [Value.ownBlock] at hq; omega)
  have d3 : w2.cell? ⟨w.heap.size, 3, none⟩ = some (.string ⟨#[]⟩) := by
    have h1 : (w1.alloc (.cells #[.int .u64 X] 29)).cell? ⟨w.heap.size, 3, none⟩ = some (.string ⟨#[]⟩) := Lib.cell?_alloc_some _ c3
    have h2 := hgrow.block w.heap.size (by simp; omega) (by simp [Value.ownBlock]; omega)
    rw [← h1]
    exact World.cell?_of_block h2
  have hz2 : w.heap.size < w2.heap.size := World.block_lt_of_cell? w2 _ d3
  clear hown hgrow hblk c0 c1 c2 c3
  go_wp2
  go_rounds 1
  go_ret
  exact ⟨v', rfl, HO.out, HB2.out⟩

theorem packN_step' (tx : List UInt8) (n k : Nat) (hk : k < tx.length) :
    packN tx n (k + 1) = (packN tx n k).set (k / 8) (packW (tx.take k) (k / 8) + 256 ^ (k % 8) * (tx[k].toNat : Int)) := by
  apply List.ext_getElem
  · simp [packN]
  · intro j h1 h2
    have hj : j < n := by simpa [packN] using h1
    simp only [packN, List.getElem_map, List.getElem_range, List.getElem_set]
    have hlt : (tx.take k).length = k := by rw [List.length_take]; omega
    by_cases he : k / 8 = j
    · rw [if_pos he]
      subst he
      unfold packW
      rw [List.take_succ_eq_append_getElem hk, List.drop_append_of_le_length (by omega), List.take_append]
      have h3 : ((tx.take k).drop (8 * (k / 8))).length = k % 8 := by rw [List.length_drop, hlt]; omega
      rw [h3, ofBytes_append]
      have h4 : (((tx.take k).drop (8 * (k / 8))).take 8).length = k % 8 := by rw [List.length_take, h3]; omega
      rw [h4]
      congr 1
      have h5 : [tx[k]].take (8 - k % 8) = [tx[k]] := List.take_of_length_le (by simp; omega)
      rw [h5]
      simp [ofBytes]
    · rw [if_neg he]
      unfold packW
      congr 1
      by_cases hc : 8 * j + 8 ≤ k
      · rw [List.take_succ_eq_append_getElem hk, List.drop_append_of_le_length (by omega), List.take_append_of_le_length (by rw [List.length_drop]; omega)]
      · have : k + 1 ≤ 8 * j := by omega
        rw [List.drop_eq_nil_of_le (by rw [List.length_take]; omega), List.drop_eq_nil_of_le (by rw [List.length_take]; omega)]
theorem packN_more (tx : List UInt8) (n k : Nat) (h : k ≤ 8 * n) : packN tx (n + 1) k = packN tx n k ++ [0] := by
  unfold packN
  rw [List.range_succ, List.map_append, List.map_cons, List.map_nil]
  congr 2
  unfold packW
  rw [List.drop_eq_nil_of_le (by rw [List.length_take]; omega)]
  rfl

theorem owns_alloc' {w : World} {B : Nat} {e : TypeId} {size : Nat} {v : Value} {n : Nat} {xs : List Value} (h : w.ownsRow B e size v n xs) (o : Obj) : (w.alloc o).ownsRow B e size v n xs :=
  owns_of_heap h fun g hg => Below.heap_alloc _ _ _ (h.lt g hg).2
theorem orStep {w : World} {g : Nat} {T : TypeId} {X : Int} {tx : List UInt8} {n j : Nat} {rest : List Value} (hn : n = j / 8 + 1) (hj : j < tx.length) (h : rowAt w g T (wordsL (X :: packN tx n j) ++ rest)) :
    w.cell? ⟨g, 1 + j / 8, none⟩ = some (.int .u64 (packW (tx.take j) (j / 8))) ∧ w.frozen? ⟨g, 1 + j / 8, none⟩ = false ∧
      rowAt (w.setCell ⟨g, 1 + j / 8, none⟩ (.int .u64 (packW (tx.take j) (j / 8) + 256 ^ (j % 8) * (tx[j].toNat : Int)))) g T (wordsL (X :: packN tx n (j + 1)) ++ rest) := by
  have hlt : j / 8 < n := by omega
  refine ⟨?_, h.free _, ?_⟩
  · rw [h.cell, List.getElem?_append_left (by simp [packN]; omega), Nat.add_comm 1]
    simp only [wordsL, List.map_cons, List.getElem?_cons_succ]
    rw [ List.getElem?_map, packN, List.getElem?_map, List.getElem?_range hlt]
    rfl
  · have h2 := h.set (1 + j / 8) (.int .u64 (packW (tx.take j) (j / 8) + 256 ^ (j % 8) * (tx[j].toNat : Int)))
    rw [List.set_append_left _ _ (by simp [packN]; omega), Nat.add_comm 1] at h2
    simp only [wordsL, List.map_cons, List.set_cons_succ, ← List.map_set] at h2
    rw [← packN_step' tx n j hj] at h2
    rw [Nat.add_comm 1]
    exact h2
theorem LayS_end {w1 : World} {B : Nat} {v : Value} {tx : List UInt8} {X : Int} {n : Nat} (hn : n = tx.length) (h : w1.ownsRow B 29 1 v (1 + (n + 7) / 8) (wordsL (X :: packN tx ((n + 7) / 8) n))) : w1.ownsRow B 29 1 v (1 + (pack tx).length) (wordsL (X :: pack tx)) := by
  subst hn
  rw [packN_all] at h
  rw [pack_length]
  exact h
set_option maxHeartbeats 8000000 in
theorem reLay_s (t : Int) (a : Option Addr) (c : Nat) (s : ByteArray) (h : headR 2 t 0 s.size = true) (w : World) :
    Calls Try.prog 55 #[obj 2 t a 0 c s] w fun e w' => ∃ v, e = .returned v ∧ w'.ownsRow w.heap.size 29 1 v (1 + (pack s.data.toList).length) (wordsL (headW 2 t s.size :: pack s.data.toList)) ∧ Below w.heap.size w w' := by
  have HH := Lib.hid (refHead_any 2 t a 0 c s h)
  have h' := h
  simp only [headR, Bool.and_eq_true] at h'
  have e : sizeH 2 0 s.size = s.size := rfl
  rw [e] at HH h'
  have hb := mayH_bounds h'.2
  obtain ⟨i0, hi, hz0, hz1, hz2⟩ := info_parts info_word
  have hl : s.size ≤ 400 := by omega
  have hsz : s.data.toList.length = s.size := by rw [Lib.size_eq]
  have HSZ := Lib.hid hsz
  clear e h h' hb hsz
  obtain ⟨X, hX⟩ : ∃ X, X = headW 2 t s.size := ⟨_, rfl⟩
  rw [← hX] at HH ⊢
  clear hX
  go_enter Try.func55, Try.ntmps55
  go_wp2_with fail
  refine (HH.out _).mono ?_
  rintro e w1 ⟨rfl, b1⟩
  have hc := (bcell b1).1 w.heap.size
  have hz := b1.size
  simp at hz
  have hzl : w.heap.size < w1.heap.size := by omega
  have HB := Lib.hid (bl_call (bl_alloc (Below.refl _ _) _) b1)
  have c0 := hc 0 (by simp)
  have c1 := hc 1 (by simp)
  have c2 := hc 2 (by simp)
  have c3 := hc 3 (by simp)
  clear hc b1
  simp [go_sem] at c0 c1 c2 c3
  go_wp2_with (at_builtin; refine wpList_append_any rfl _ _ 22 rfl (w.heap.size + 1) 29 i0 (.int .u64 0) 1 8 under_words hi hz0 hz1 hz2 rfl (by decide) _ 1 (wordsL [X]) rfl (owns_mk (rest := []) (rowAt.made w1 29 (wordsL [X])) (by omega) rfl rfl (Nat.le_refl _) (by decide)) a 0 c [] rfl rfl (.inl rfl) (fun u hu => by cases hu) (by decide) (by decide) (by simp; omega) ?_)
  intro v' w2 hown hgrow hblk
  have HO := Lib.hid hown
  have HB2 : Hid (Below w.heap.size w w2) := (bl_alloc HB.out _).grown hgrow (by simp; omega) (by intro q hq; simp [Value.ownBlock] at hq; omega)
  have d3 : w2.cell? ⟨w.heap.size, 3, none⟩ = some (.string s) := by
    have h1 : (w1.alloc (.cells #[.int .u64 X] 29)).cell? ⟨w.heap.size, 3, none⟩ = some (.string s) := Lib.cell?_alloc_some _ c3
    have h2 := hgrow.block w.heap.size (by simp; omega) (by simp [Value.ownBlock]; omega)
    rw [← h1]
    exact World.cell?_of_block h2
  have hz2' : w.heap.size < w2.heap.size := World.block_lt_of_cell? w2 _ d3
  have HD3 := Lib.hid d3
  clear hown hgrow hblk c0 c1 c2 c3 d3
  go_wp2
  go_loopw [3, 4] (fun v i wr => ∃ j : Nat, j ≤ s.size ∧ i = .int .i64 (j : Int) ∧ Hid (wr.ownsRow (w.heap.size + 1) 29 1 v (1 + (j + 7) / 8) (wordsL (X :: packN s.data.toList ((j + 7) / 8) j)) ∧ Below w.heap.size w wr ∧ wr.cell? ⟨w.heap.size, 3, none⟩ = some (.string s))) (fun _ i _ => s.size - (intOf i).toNat)
  case atStart =>
    refine ⟨0, Nat.zero_le _, rfl, ?_, HB2.out, HD3.out⟩
    exact HO.out
  case round =>
    obtain ⟨j, hj, rfl, HR⟩ := hrel
    have e3 := HR.out.2.2
    have HBR := Lib.hid HR.out.2.1
    have hown := HR.out.1
    obtain ⟨ga, gc, rfl⟩ := owns_slice hown
    have hzr : w.heap.size < wr.heap.size := World.block_lt_of_cell? wr _ e3
    by_cases hlt : j < s.size
    · have hjt : j < s.data.toList.length := by rw [HSZ.out]; exact hlt
      have hby : s.data.toList[j] = s[j] := by rfl
      have q2 : 0 ≤ (j : Int) / 8 := by omega
      have q3 : (j : Int) / 8 ≤ 400 := by omega
      have q4 : (1 + (j : Int) / 8).toNat = 1 + j / 8 := by omega
      have hbyte : (s[j].toNat : Int) < 256 := by have := s[j].toNat_lt; omega
      by_cases h8 : j % 8 = 0
      · have h8b : ((j : Int) % 8 == 0) = true := by simp; omega
        have HO1 := Lib.hid hown
        clear hown HR
        go_wp2_with (at_builtin; refine wpList_append_any rfl _ _ 22 rfl (w.heap.size + 1) 29 i0 (.int .u64 0) 1 8 under_words hi hz0 hz1 hz2 rfl (by decide) _ (1 + (j + 7) / 8) _ rfl (owns_alloc' HO1.out _) (some ⟨wr.heap.size, 0, none⟩) 1 1 [.int .u64 0] rfl rfl ?q1 ?q2 ?q3 ?q4 ?q5 ?_)
        case q1 => exact .inr ⟨_, rfl, fun q u hq => by rw [Addr.add_lit, (rowAt.made wr 29 [.int .u64 0]).cell, Nat.zero_add]; exact hq⟩
        case q2 => intro u hu; simp at hu; subst hu; rfl
        case q3 => simp only [maxLen]; omega
        case q4 => omega
        case q5 => simp; omega
        intro v3 w3 hown3 hgrow3 hblk3
        have HB3 : Below w.heap.size w w3 := (bl_alloc HBR.out _).grown hgrow3 (by simp; omega) (by intro q hq; have := (HO1.out.lt q hq).1; omega)
        have HO3 : Hid (w3.ownsRow (w.heap.size + 1) 29 1 v3 (1 + (j / 8 + 1)) (wordsL (X :: packN s.data.toList (j / 8 + 1) j))) := by
          have e : (j + 7) / 8 = j / 8 := by omega
          rw [e] at hown3
          have e2 : wordsL (X :: packN s.data.toList (j / 8 + 1) j) = Value.int .u64 X :: (List.map (Value.int .u64) (packN s.data.toList (j / 8) j) ++ [Value.int .u64 0]) := by
            rw [packN_more _ _ _ (by omega)]
            simp
          show w3.ownsRow _ _ _ _ _ _
          rw [e2]
          exact hown3
        have e33 : w3.cell? ⟨w.heap.size, 3, none⟩ = some (.string s) := by
          have h1 : (wr.alloc (.cells #[.int .u64 0] 29)).cell? ⟨w.heap.size, 3, none⟩ = some (.string s) := Lib.cell?_alloc_some _ e3
          rw [← h1]
          exact World.cell?_of_block (hgrow3.block w.heap.size (by simp; omega) (by intro hq; have := (HO1.out.lt _ hq.symm).1; omega))
        clear hown3 hgrow3 hblk3 HO1 HBR e3
        go_wp2
        have HBW : Hid (Below w.heap.size w w3) := HB3
        rcases owns_parts HO3.out with ⟨_, h0, _⟩ | ⟨g, cap, rest, rfl, hg, hrow, hlen1, hlen2, hcap, hcm⟩
        · omega
        obtain ⟨o1, o2, o3⟩ := orStep rfl hjt hrow
        have HO4 : Hid ((w3.setCell ⟨g, 1 + j / 8, none⟩ (.int .u64 (packW (s.data.toList.take j) (j / 8) + 256 ^ (j % 8) * (s.data.toList[j].toNat : Int)))).ownsRow (w.heap.size + 1) 29 1 (.slice (some ⟨g, 0, none⟩) (1 + (j / 8 + 1)) cap) (1 + (j / 8 + 1)) (wordsL (X :: packN s.data.toList (j / 8 + 1) (j + 1)))) :=
          owns_mk o3 hg (by simp [packN]; omega) (by simp [packN] at hlen2 ⊢; omega) hcap hcm
        have HBW4 : Hid (Below w.heap.size w (w3.setCell ⟨g, 1 + j / 8, none⟩ (.int .u64 (packW (s.data.toList.take j) (j / 8) + 256 ^ (j % 8) * (s.data.toList[j].toNat : Int))))) := bl_set HBW.out (by simp; omega) _
        have hgw : w.heap.size ≠ g := by omega
        have E4 : Hid ((w3.setCell ⟨g, 1 + j / 8, none⟩ (.int .u64 (packW (s.data.toList.take j) (j / 8) + 256 ^ (j % 8) * (s.data.toList[j].toNat : Int)))).cell? ⟨w.heap.size, 3, none⟩ = some (.string s)) := by
          show _ = _
          rw [World.cell?_of_block (w := w3) (Below.heap_setCell _ _ _ _ hgw)]
          exact e33
        have HN : Hid (bits .or .u64 (packW (s.data.toList.take j) (j / 8)) (s[j].toNat : Int) = packW (s.data.toList.take j) (j / 8) + 256 ^ (j % 8) * (s[j].toNat : Int)) := by
          have h := or_byte' (packW (s.data.toList.take j) (j / 8)) (s[j].toNat) j (packN_low s.data.toList j hjt) (by have := s[j].toNat_lt; omega)
          have e : IntKind.u64.wrap ((s[j].toNat : Int) * 2 ^ (j % 8 * 8)) = (s[j].toNat : Int) := by
            rw [h8, IntKind.wrap_u64]
            simp
            omega
          rw [e] at h
          exact h
        rw [hby] at HO4 HBW4 E4
        clear hrow o3 hlen1 hlen2 HO3 HBW HB3
        generalize 256 ^ (j % 8) * (s[j].toNat : Int) = Y at *
        generalize packW (s.data.toList.take j) (j / 8) = Z at *
        go_region
        all_goals
          go_wp2
          go_roundw
          case rel =>
            refine ⟨j + 1, by omega, by go_num, ?_⟩
            have e : (j + 1 + 7) / 8 = j / 8 + 1 := by omega
            rw [e, HN.out]
            exact ⟨HO4.out, bl_drew HBW4.out, E4.out⟩
          case measure => simp [intOf]; omega
      · have h8b : ((j : Int) % 8 == 0) = false := by simp; omega
        have e : (j + 7) / 8 = j / 8 + 1 := by omega
        clear HR
        rw [e] at hown
        rw [e]
        clear e
        have HO3 := Lib.hid hown
        have HB3 := HBR.out
        have e33 := e3
        clear hown HBR e3
        obtain ⟨w3, rfl⟩ : ∃ w3, w3 = wr := ⟨_, rfl⟩
        go_wp2
        have HBW : Hid (Below w.heap.size w w3) := HB3
        rcases owns_parts HO3.out with ⟨_, h0, _⟩ | ⟨g, cap, rest, hve, hg, hrow, hlen1, hlen2, hcap, hcm⟩
        · omega
        injection hve with hv1 hv2 hv3
        subst hv1 hv3
        clear hv2
        obtain ⟨o1, o2, o3⟩ := orStep rfl hjt hrow
        have HO4 : Hid ((w3.setCell ⟨g, 1 + j / 8, none⟩ (.int .u64 (packW (s.data.toList.take j) (j / 8) + 256 ^ (j % 8) * (s.data.toList[j].toNat : Int)))).ownsRow (w.heap.size + 1) 29 1 (.slice (some ⟨g, 0, none⟩) (1 + (j / 8 + 1)) gc) (1 + (j / 8 + 1)) (wordsL (X :: packN s.data.toList (j / 8 + 1) (j + 1)))) :=
          owns_mk o3 hg (by simp [packN]; omega) (by simp [packN] at hlen2 ⊢; omega) hcap hcm
        have HBW4 : Hid (Below w.heap.size w (w3.setCell ⟨g, 1 + j / 8, none⟩ (.int .u64 (packW (s.data.toList.take j) (j / 8) + 256 ^ (j % 8) * (s.data.toList[j].toNat : Int))))) := bl_set HBW.out (by simp; omega) _
        have hgw : w.heap.size ≠ g := by omega
        have E4 : Hid ((w3.setCell ⟨g, 1 + j / 8, none⟩ (.int .u64 (packW (s.data.toList.take j) (j / 8) + 256 ^ (j % 8) * (s.data.toList[j].toNat : Int)))).cell? ⟨w.heap.size, 3, none⟩ = some (.string s)) := by
          show _ = _
          rw [World.cell?_of_block (w := w3) (Below.heap_setCell _ _ _ _ hgw)]
          exact e33
        have HN := Lib.hid (or_byte' (packW (s.data.toList.take j) (j / 8)) (s[j].toNat) j (packN_low s.data.toList j hjt) (by have := s[j].toNat_lt; omega))
        rw [Nat.mul_comm (j % 8) 8] at HN
        rw [hby] at HO4 HBW4 E4
        clear hrow o3 hlen1 hlen2 HO3 HBW HB3
        generalize 256 ^ (j % 8) * (s[j].toNat : Int) = Y at *
        generalize packW (s.data.toList.take j) (j / 8) = Z at *
        go_region
        all_goals
          go_wp2
          go_roundw
          case rel =>
            refine ⟨j + 1, by omega, by go_num, ?_⟩
            have e : (j + 1 + 7) / 8 = j / 8 + 1 := by omega
            rw [e, HN.out]
            exact ⟨HO4.out, bl_drew HBW4.out, E4.out⟩
          case measure => simp [intOf]; omega
    · obtain rfl : j = s.size := by omega
      have HE := Lib.hid (LayS_end (B := w.heap.size + 1) HSZ.out.symm hown)
      clear hown HR
      go_wp2
      go_ret
      exact ⟨_, rfl, owns_base HE.out fun g hg => by have := (HE.out.lt g hg).1; omega, HBR.out⟩

/-- The document's words of an object that may be. -/
theorem reLay_any (o : Ob) (a : Option Addr) (c : Nat) (s : ByteArray) (hs : s.data.toList = o.tx) (hm : o.may = true) (w : World) (hr : readsAt w (.slice a o.fs.length c) o.fs.length (wordsL o.fs)) :
    Calls Try.prog 55 #[obj o.kind o.tag a o.fs.length c s] w fun e w' => ∃ v, e = .returned v ∧ w'.ownsRow w.heap.size 29 1 v o.lay.length (wordsL o.lay) ∧ Below w.heap.size w w' := by
  have hsz : s.size = o.tx.length := by rw [← hs, Lib.size_eq]
  have hR : headR o.kind o.tag o.fs.length s.size = true := by
    rw [hsz]
    exact hm
  by_cases hk : o.kind = 2
  · have h1 := (Ob.may_split hm).1
    have hf : o.fs = [] := by
      simp only [hasH, hk, if_true, decide_eq_true_eq] at h1
      exact List.length_eq_zero_iff.1 h1
    have hlay : o.lay = headW 2 o.tag s.size :: pack s.data.toList := by
      unfold Ob.lay Ob.head Ob.size sizeH Ob.body
      rw [hk, if_pos rfl, if_pos rfl, hs, hsz]
    rw [hlay]
    rw [hf, hk] at hR ⊢
    refine (reLay_s o.tag a c s hR w).mono fun e w' ⟨v, he, ho, hb⟩ => ⟨v, he, ?_, hb⟩
    rw [List.length_cons, Nat.add_comm]
    exact ho
  · have hlay : o.lay = headW o.kind o.tag o.fs.length :: o.fs := by
      unfold Ob.lay Ob.head Ob.size sizeH Ob.body
      rw [if_neg hk, if_neg hk]
    rw [hlay]
    refine (reLay_f o.kind o.tag a o.fs c s hR hk w hr).mono fun e w' ⟨v, he, ho, hb⟩ => ⟨v, he, ?_, hb⟩
    rw [List.length_cons, Nat.add_comm]
    exact ho
end Go.Proofs.Ytejbblhlbilpnaa
