/-
  The queue's list.
  Conditions: as stated.
-/
import Derived.Test.YtgcmkhbpkmfpkaaQK
import Derived.OwnWalk
namespace Go.Proofs.Ytgcmkhbpkmfpkaa
open Go.ChangeShapes Go.WideShapes Go.ChangeAt Go.RowKit
set_option linter.unusedVariables false
set_option linter.unusedSimpArgs false
set_option maxRecDepth 100000

theorem info_pairI : (Try.prog.info? 35).map (fun i => (i.zero, i.size, i.bytes)) = some (some (.agg #[.int .i64 0, .int .i64 0]), 2, 16) := by kernel_rfl
theorem under_pairsI : Try.prog.underlying 26 = some (.slice 35) := by kernel_rfl

theorem qlist_nil (w : World) :
    Calls Try.prog 14 #[.pointer none] w fun e w' => e = .returned (.slice none 0 0) ∧ w = w' := by
  go_enter Try.func14, Try.ntmps14
  go_wp2
  go_ret
  exact ⟨rfl, rfl⟩

def Listing (s : List En) (B B2 : Nat) (w w2 : World) (v2 av : Value) (k : Nat) (wr : World) : Prop :=
  wr.ownsRow B 35 2 av k (pairsL (s.take k)) ∧ wr.ownsRow B2 59 2 v2 s.length (pairsL s) ∧ Below B w wr ∧ w2.heap.size ≤ wr.heap.size ∧ ∀ g, av.ownBlock = some g → g < B2 ∨ w2.heap.size ≤ g

theorem Listing.cells {s : List En} {B B2 : Nat} {w w2 wr : World} {v2 av : Value} {k : Nat} (h : Listing s B B2 w w2 v2 av k wr) (hk : k < s.length) :
    ∃ g2 c2, v2 = .slice (some ⟨g2, 0, none⟩) s.length c2 ∧ wr.cell? ⟨g2, k * 2, none⟩ = some (.int .i64 s[k].1) ∧ wr.cell? ⟨g2, k * 2 + 1, none⟩ = some (.int .i64 s[k].2) := by
  rcases owns_parts h.2.1 with ⟨_, hn, _⟩ | ⟨g, cap, rest, h1, _, h2, _⟩
  · omega
  · obtain ⟨a, b⟩ := RowIn.cells h2 hk
    rw [atE_get hk] at a b
    exact ⟨g, cap, h1, a, b⟩

theorem Listing.next {s : List En} {B B2 : Nat} {w w2 wr w' : World} {v2 av v' : Value} {k : Nat} {X Y : Obj} (h : Listing s B B2 w w2 v2 av k wr) (hk : k < s.length) (hB : B ≤ w2.heap.size) (hv2 : ∀ g, v2.ownBlock = some g → B2 ≤ g ∧ g < w2.heap.size)
    (ho : w'.ownsRow B 35 2 v' (k + 1) (pairsL (s.take k) ++ [.int .i64 s[k].1, .int .i64 s[k].2])) (hg : ((wr.alloc X).alloc Y).grownBy w' av.ownBlock) (hb : v'.ownBlock = av.ownBlock ∨ v'.ownBlock = some (wr.heap.size + 1 + 1)) :
    Listing s B B2 w w2 v2 v' (k + 1) w' := by
  obtain ⟨h1, h2, h3, h4, h5⟩ := h
  have hx : Upon (fun _ => False) wr ((wr.alloc X).alloc Y) := (Upon.alloc (fun _ => False) _ _).trans (Upon.alloc (fun _ => False) _ _) fun _ _ h => h
  have hu : Upon (fun g => av.ownBlock = some g) wr w' := (hx.mono (T := fun g => av.ownBlock = some g) fun _ _ (h : False) => h.elim).trans (Upon.grown hg fun k hk => hk) fun _ _ h => h
  have hav : ∀ g, av.ownBlock = some g → B ≤ g := fun g hg => (h1.lt g hg).1
  refine ⟨?_, ?_, ?_, Nat.le_trans h4 hu.size, fun g hg => ?_⟩
  · rw [List.take_succ_eq_append_getElem hk]
    have : pairsL (s.take k ++ [s[k]]) = pairsL (s.take k) ++ [.int .i64 s[k].1, .int .i64 s[k].2] := by simp only [pairsL, List.flatMap_append, List.flatMap_cons, List.flatMap_nil, List.append_nil]
    rw [this]
    exact ho
  · refine owns_upon h2 hu fun g hg hag => ?_
    have a := hv2 g hg
    have b := h5 g hag
    omega
  · exact h3.trans (hu.belowB (by omega) hav)
  · rcases hb with hb | hb
    · exact h5 g (hb ▸ hg)
    · rw [hb] at hg
      have := Option.some.inj hg
      exact .inr (by omega)

set_option maxHeartbeats 1600000 in
theorem qlist_any {w : World} {q : Nat} {F : Nat → Prop} {s : List En} (h : QH w q F s) :
    Calls Try.prog 14 #[.pointer (some ⟨q, 0, none⟩)] w fun e w' => ∃ v, e = .returned v ∧ w'.ownsRow w.heap.size 35 2 v s.length (pairsL s) ∧ Below w.heap.size w w' := by
  obtain ⟨i0, hi, hz0, hz1, hz2⟩ := info_parts info_pairI
  have hmax := h.max
  have HL := Lib.hid (qlen_any h)
  obtain ⟨p, Fr, l, h1, h2, h3, h4, h5⟩ := h
  have H1 := Lib.hid h1
  have H2 := Lib.hid h2
  have H4 := Lib.hid h4
  clear h1 h2 h3 h4 h5
  go_enter Try.func14, Try.ntmps14
  go_wp2_with fail
  refine (HL.out).mono ?_
  rintro x w2 ⟨rfl, rfl⟩
  go_wp2_with (at_make; refine wpList_make_own _ rfl _ _ 26 rfl w.heap.size 35 i0 (.agg #[.int .i64 0, .int .i64 0]) 2 under_pairsI hi hz0 hz1 .i64 .i64 _ s.length rfl rfl rfl (by rw [hz2]; omega) (by simp only [maxLen]; omega) (Nat.le_refl _) ?_)
  intro w1 hown1 hgrow1
  have hb1 : Below w.heap.size w w1 := (Below.refl _ w).grown hgrow1 (Nat.le_refl _) (by intro k hk; cases hk)
  have c0 : w1.cell? ⟨q, 0, none⟩ = some (.iface 46 (.pointer (some ⟨p, 0, none⟩))) := ((H1.out.below hb1 H1.out.lt).cell 0).trans rfl
  have HSR := Lib.hid (rsorted_any (H2.out.below hb1) H4.out)
  have HO1 := Lib.hid hown1
  have HB1 := Lib.hid hb1
  clear hown1 hb1 hgrow1
  go_wp2_with fail
  refine (HSR.out).mono ?_
  rintro x w2 ⟨v2, rfl, hown2, hb2⟩
  obtain ⟨a2, c2, rfl⟩ := owns_slice hown2
  have hlt2 : ∀ g, (Value.slice a2 s.length c2).ownBlock = some g → w1.heap.size ≤ g ∧ g < w2.heap.size := fun g hg => hown2.lt g hg
  have hbl1 : ∀ g, (Value.slice (some ⟨w.heap.size, 0, none⟩) 0 s.length).ownBlock = some g → g < w1.heap.size := fun g hg => (HO1.out.lt g hg).2
  have HST : Hid (Listing s w.heap.size w1.heap.size w w2 (.slice a2 s.length c2) (.slice (some ⟨w.heap.size, 0, none⟩) 0 s.length) 0 w2) :=
    ⟨owns_below HO1.out hb2 hbl1, hown2, HB1.out.trans (hb2.mono HB1.out.size), Nat.le_refl _, fun g hg => .inl (hbl1 g hg)⟩
  have HV2 := Lib.hid hlt2
  have hB : w.heap.size ≤ w2.heap.size := Nat.le_trans HB1.out.size hb2.size
  clear hown2 hb2 hlt2 hbl1
  go_wp2_with fail
  go_loopw [17, 3] (fun iv av wr => ∃ k : Nat, k ≤ s.length ∧ iv = .int .i64 k ∧ Hid (Listing s w.heap.size w1.heap.size w w2 (.slice a2 s.length c2) av k wr)) (fun iv _ _ => s.length - (intOf iv).toNat)
  case atStart => exact ⟨0, Nat.zero_le _, rfl, HST.out⟩
  case round =>
    obtain ⟨k, hk, rfl, HR⟩ := hrel
    by_cases hlt : k < s.length
    · obtain ⟨g2, cc, hve, e1, e2⟩ := HR.out.cells hlt
      cases hve
      obtain ⟨a3, c3, rfl⟩ := owns_slice HR.out.1
      have HOWN : Hid (((wr.alloc (.cells #[.int .i64 s[k].1, .int .i64 s[k].2] 59)).alloc (.cells #[.int .i64 s[k].1, .int .i64 s[k].2] 35)).ownsRow w.heap.size 35 2 _ k (pairsL (s.take k))) :=
        owns_upon (owns_upon HR.out.1 (Upon.alloc (fun _ => False) _ _) fun _ _ h => h) (Upon.alloc (fun _ => False) _ _) fun _ _ h => h
      have HROW : Hid (rowAt ((wr.alloc (.cells #[.int .i64 s[k].1, .int .i64 s[k].2] 59)).alloc (.cells #[.int .i64 s[k].1, .int .i64 s[k].2] 35)) (wr.heap.size + 1) 35 [.int .i64 s[k].1, .int .i64 s[k].2]) := rowAt.made_at _ _ (by simp)
      have hge : w.heap.size ≤ wr.heap.size := Nat.le_trans hB HR.out.2.2.2.1
      go_wp2_with (at_builtin; refine wpList_append_w rfl _ _ _ rfl w.heap.size 35 i0 (.agg #[.int .i64 0, .int .i64 0]) 2 16 under_pairsI hi hz0 hz1 hz2 rfl (by decide) _ k (pairsL (s.take k)) rfl HOWN.out _ 1 1 [.int .i64 s[k].1, .int .i64 s[k].2] rfl rfl (src_row HROW.out 1) (oneCell_two _ _) ?c1 ?c2 ?c3 ?_)
      case c1 => simp only [maxLen]; omega
      case c2 => omega
      case c3 => simp; omega
      intro v' w' hown' hgrow' hb'
      have HN := Lib.hid (HR.out.next hlt hB HV2.out hown' hgrow' hb')
      clear hown' hgrow' hb'
      go_wp2_with fail
      go_roundw
      case rel => exact ⟨k + 1, by omega, by go_num, HN.out⟩
      case measure => simp [intOf]; omega
    · obtain rfl : k = s.length := by omega
      have HE := Lib.hid HR.out.1
      go_wp2_with fail
      go_ret
      exact ⟨_, rfl, by have := HE.out; rwa [List.take_of_length_le (Nat.le_refl _)] at this, HR.out.2.2.1⟩

end Go.Proofs.Ytgcmkhbpkmfpkaa
