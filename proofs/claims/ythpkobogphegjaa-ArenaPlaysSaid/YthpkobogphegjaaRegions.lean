/-
  'Regions' of an arena: a new row of pairs.
  Conditions: as stated.
-/
import Derived.Test.YthpkobogphegjaaArena
namespace Go.Proofs.Ythpkobogphegjaa
open Go.ChangeShapes Go.WideShapes Go.ChangeAt Go.RowKit

def pairs (rs : List (Nat × Nat)) : List Value := rs.flatMap fun r => [.int .i64 r.1, .int .i64 r.2]
theorem length_pairs : ∀ rs : List (Nat × Nat), (pairs rs).length = rs.length * 2
  | [] => rfl
  | r :: rs => by
    have := length_pairs rs
    simp only [pairs, List.flatMap_cons, List.length_append, List.length_cons, List.length_nil] at this ⊢
    omega
theorem pairs_snoc (rs : List (Nat × Nat)) (r : Nat × Nat) : pairs (rs ++ [r]) = pairs rs ++ [.int .i64 r.1, .int .i64 r.2] := by simp [pairs]

theorem info_pair : (Try.prog.info? 55).map (fun i => (i.zero, i.size, i.bytes)) = some (some (.agg #[.int .i64 0, .int .i64 0]), 2, 16) := by kernel_rfl
theorem under_pairs : Try.prog.underlying 48 = some (.slice 55) := by kernel_rfl

theorem made_pairs (n : Nat) : (madeCells #[Value.int .i64 0, Value.int .i64 0] (n * 2)).toList = List.replicate (n * 2) (.int .i64 0) := by
  simp only [madeCells]
  apply List.ext_getElem
  · simp
  · intro i h1 h2
    simp only [Array.toList_map, List.getElem_map, List.getElem_replicate]
    have : (Array.range (n * 2)).toList[i]'(by simpa using h1) = i := by simp
    rw [this]
    have h3 : i % 2 = 0 ∨ i % 2 = 1 := by omega
    have h4 : (#[Value.int .i64 0, Value.int .i64 0] : Array Value).size = 2 := rfl
    rw [h4]
    rcases h3 with h3 | h3 <;> rw [h3] <;> rfl

theorem regions_any {w : World} {p bw bm : Nat} {bv : Value} {A : Ar} (h : ArenaIn w p bw bm bv A) :
    Calls Try.prog 23 #[.pointer (some ⟨p, 0, none⟩)] w fun e w' =>
      ∃ v, e = .returned v ∧ w'.ownsRow w.heap.size 55 2 v A.rs.length (pairs A.rs) ∧ Below w.heap.size w w' := by
  obtain ⟨i0, hi, hz0, hz1, hz2⟩ := info_parts info_pair
  have c1 : w.cell? ⟨p, 1, none⟩ = some (.map (some bm)) := (h.root.cell 1).trans rfl
  have c2 : w.cell? ⟨p, 2, none⟩ = some bv := (h.root.cell 2).trans rfl
  have hlen := h.ok.chain.len
  have hm := h.ok.max
  rcases owns_parts h.bases with ⟨rfl, h0, h1⟩ | ⟨g, cap, rest, rfl, hg, hr, hl, hcap, hn, hmx⟩
  · have hrs : A.rs = [] := by simpa [Ar.bs] using h0
    have HR := Lib.hid hrs
    clear hrs h0 h1 hlen
    have hpl := h.root.lt
    go_enter Try.func23, Try.ntmps23
    go_wp2_with (with_reducible refine wpList_make_full _ rfl _ _ _ rfl w.heap.size 55 i0 (.agg #[.int .i64 0, .int .i64 0]) 2 under_pairs hi hz0 hz1 .i64 .i64 _ _ 0 rfl rfl rfl rfl ?q1 ?q2 (Nat.le_refl _) ?_)
    case q1 => omega
    case q2 => simp only [maxLen]; omega
    intro w1 hown hgrow
    have hb1 : Below w.heap.size w w1 := (Below.refl _ w).grown hgrow (Nat.le_refl _) (by intro k hk; cases hk)
    have c1' := (hb1.cell (p := ⟨p, 1, none⟩) hpl).trans c1
    have c2' := (hb1.cell (p := ⟨p, 2, none⟩) hpl).trans c2
    have hmc : (madeCells #[Value.int .i64 0, Value.int .i64 0] 0).toList = [] := by simp [madeCells]
    rw [hmc] at hown
    have HO := Lib.hid hown
    clear hown
    go_wp2
    go_rounds 1
    go_ret
    exact ⟨_, rfl, by rw [HR.out]; exact HO.out, hb1⟩
  · have hbl : A.bs.length = A.rs.length := by simp [Ar.bs]
    have hcell : ∀ wr, ArenaIn wr p bw bm (.slice (some ⟨g, 0, none⟩) A.bs.length cap) A → ∀ k, (hk : k < A.rs.length) → wr.cell? ⟨g, k, none⟩ = some (.int .i64 (A.rs[k].1 : Int)) := by
      intro wr hwr k hk
      rcases owns_parts hwr.bases with ⟨h0, _⟩ | ⟨g', cap', rest', h0, _, hr, _⟩
      · cases h0
      cases h0
      rw [hr.cell, List.getElem?_append_left (by simp [Ar.bs]; exact hk)]
      simp [Ar.bs, hk]
    have HC := Lib.hid hcell
    have hget := h.ok.chain.get
    have HG := Lib.hid hget
    have hslot : ∀ k, (hk : k < A.rs.length) → slotV A bw (A.rs[k].1 : Int) = .slice (some ⟨bw, A.rs[k].1, none⟩) A.rs[k].2 A.rs[k].2 := by
      intro k hk
      exact slotV_some (h.ok.chain.get k hk).2.2.2
    have HS := Lib.hid hslot
    clear hcell hget hslot
    have hgl := h.lt g (.inr (.inr (.inr rfl)))
    have hpl := h.root.lt
    rw [hbl] at c2
    have HB := Lib.hid hbl
    clear hbl hl hcap
    go_enter Try.func23, Try.ntmps23
    go_wp2_with (with_reducible refine wpList_make_full _ rfl _ _ _ rfl w.heap.size 55 i0 (.agg #[.int .i64 0, .int .i64 0]) 2 under_pairs hi hz0 hz1 .i64 .i64 _ _ A.rs.length rfl rfl rfl rfl ?q1 ?q2 (Nat.le_refl _) ?_)
    case q1 => rw [hz2]; omega
    case q2 => simp only [maxLen]; omega
    intro w1 hown hgrow
    have hb1 : Below w.heap.size w w1 := (Below.refl _ w).grown hgrow (Nat.le_refl _) (by intro k hk; cases hk)
    have c1' := (hb1.cell (p := ⟨p, 1, none⟩) hpl).trans c1
    have c2' := (hb1.cell (p := ⟨p, 2, none⟩) hpl).trans c2
    have hw1 : ArenaIn w1 p bw bm (.slice (some ⟨g, 0, none⟩) A.bs.length cap) A := h.below hb1
    have hrow1 : rowAt w1 w.heap.size 55 (pairs (A.rs.take 0) ++ List.replicate (A.rs.length * 2 - 0 * 2) (.int .i64 0)) := by
      rw [made_pairs] at hown
      rcases owns_parts hown with ⟨h0, _⟩ | ⟨g', cap', rest', h0, _, hr', hl', hc', _⟩
      · cases h0
      cases h0
      have hrest : rest' = [] := List.length_eq_zero_iff.1 (by omega)
      rw [hrest] at hr'
      simpa [pairs] using hr'
    have HW1 := Lib.hid hw1
    have HR1 := Lib.hid hrow1
    have hsz : w.heap.size < w1.heap.size := hrow1.lt
    clear hw1 hrow1 hown
    go_wp2
    go_loopw [19] (fun i wr => ∃ k : Nat, k ≤ A.rs.length ∧ i = .int .i64 k ∧ Hid (rowAt wr w.heap.size 55 (pairs (A.rs.take k) ++ List.replicate (A.rs.length * 2 - k * 2) (.int .i64 0))) ∧ Below w.heap.size w wr) (fun i _ => A.rs.length - (intOf i).toNat)
    case atStart => exact ⟨0, Nat.zero_le _, rfl, HR1.out, hb1⟩
    case round =>
      obtain ⟨k, hk, rfl, HR, hb⟩ := hrel
      by_cases hlt : k < A.rs.length
      · have hwr : ArenaIn wr p bw bm (.slice (some ⟨g, 0, none⟩) A.bs.length cap) A := h.below hb
        have hc := HC.out wr hwr k hlt
        have d1 : wr.cell? ⟨p, 1, none⟩ = some (.map (some bm)) := (hwr.root.cell 1).trans rfl
        have hsl := HS.out k hlt
        have hlk := run_lookup_int under_map under_int hwr.regs (zero_words wr) (A.rs[k].1 : Int) false
        simp only [if_neg (by decide : ¬ (false = true))] at hlk
        change _ = Result.ok (slotV A bw (A.rs[k].1 : Int)) wr at hlk
        rw [hsl] at hlk
        clear hsl
        have HWR := Lib.hid hwr
        clear hwr
        have hlp := length_pairs (A.rs.take k)
        rw [List.length_take, Nat.min_eq_left hk] at hlp
        have e1 : wr.cell? ⟨w.heap.size, k * 2, none⟩ = some (.int .i64 0) := by
          rw [HR.out.cell, List.getElem?_append_right (by omega), List.getElem?_replicate, if_pos (by omega)]
        have e2 : wr.cell? ⟨w.heap.size, k * 2 + 1, none⟩ = some (.int .i64 0) := by
          rw [HR.out.cell, List.getElem?_append_right (by omega), List.getElem?_replicate, if_pos (by omega)]
        have f1 := HR.out.free (k * 2)
        have f2 := HR.out.free (k * 2 + 1)
        have hsp : splice (pairs (A.rs.take k) ++ List.replicate (A.rs.length * 2 - k * 2) (.int .i64 0)) (k * 2) [.int .i64 A.rs[k].1, .int .i64 A.rs[k].2] = pairs (A.rs.take (k + 1)) ++ List.replicate (A.rs.length * 2 - (k + 1) * 2) (.int .i64 0) := by
          rw [splice_eq _ _ _ (by simp [hlp]; omega), List.take_succ_eq_append_getElem hlt, pairs_snoc]
          rw [List.take_append_of_le_length (by omega), List.take_of_length_le (by omega), List.drop_append, List.drop_eq_nil_of_le (by simp; omega), List.nil_append, List.drop_replicate]
          congr 2
          simp
          omega
        have HN := Lib.hid (hsp ▸ rowAt.setCells [.int .i64 A.rs[k].1, .int .i64 A.rs[k].2] (k * 2) _ _ HR.out)
        clear hsp hlp
        have hb2 : Below w.heap.size w (wr.setCells w.heap.size (k * 2) [.int .i64 A.rs[k].1, .int .i64 A.rs[k].2]) := hb.trans (Below.setCellsB (Nat.le_refl _) _ _ _)
        go_wp2
        go_roundw
        case rel => exact ⟨k + 1, by omega, by go_num, HN.out, hb2⟩
        case measure => simp [intOf]; omega
      · obtain rfl : k = A.rs.length := by omega
        have hre : rowAt wr w.heap.size 55 (pairs A.rs ++ []) := by
          have := HR.out
          simpa using this
        have HE := Lib.hid (owns_mk (size := 2) (B := w.heap.size) (n := A.rs.length) (cap := A.rs.length) hre (Nat.le_refl _) (length_pairs _) (by simp [length_pairs]) (Nat.le_refl _) (by simp only [maxLen]; omega))
        clear hre
        go_wp2
        go_ret
        exact ⟨_, rfl, HE.out, hb⟩

end Go.Proofs.Ythpkobogphegjaa
