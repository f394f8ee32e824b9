/-
  container/heap over a row: Push, Remove.
  Conditions: as stated.
-/
import Derived.Test.YtgcmkhbpkmfpkaaQF
import Derived.Test.YtgcmkhbpkmfpkaaQH
namespace Go.Proofs.Ytgcmkhbpkmfpkaa
open Go.ChangeShapes Go.WideShapes Go.ChangeAt Go.RowKit
set_option linter.unusedVariables false
set_option linter.unusedSimpArgs false
set_option maxRecDepth 100000

structure StepQ (F G : Nat → Prop) (w w' : World) : Prop where
  upon : Upon F w w'
  foot : ∀ k, G k → F k ∨ w.heap.size ≤ k
theorem StepQ.refl (F : Nat → Prop) (w : World) : StepQ F F w w := ⟨Upon.refl F w, fun _ h => .inl h⟩
theorem StepQ.chain {F G H : Nat → Prop} {a b c : World} (h : StepQ F G a b) (k : StepQ G H b c) : StepQ F H a c :=
  ⟨h.upon.trans k.upon fun i hi hg => (h.foot i hg).resolve_right (by omega), fun i hi => by
    rcases k.foot i hi with hg | hg
    · exact h.foot i hg
    · exact .inr (Nat.le_trans h.upon.size hg)⟩
theorem StepQ.of_below {F : Nat → Prop} {w w' : World} (h : Below w.heap.size w w') : StepQ F F w w' := ⟨Upon.of_below h, fun _ h => .inl h⟩
theorem StepQ.of_upon {F : Nat → Prop} {w w' : World} (h : Upon F w w') : StepQ F F w w' := ⟨h, fun _ h => .inl h⟩

theorem push_q {w : World} {p : Nat} {F : Nat → Prop} {l : List En} (h : HQ w p F l) (e : En) (hk : ∀ x ∈ l, x.1 ≠ e.1) (hl : l.length < 100000) :
    Calls Try.prog 41 #[.pointer (some ⟨p, 0, none⟩), .iface 59 (.agg #[.int .i64 e.1, .int .i64 e.2])] w fun x w' => x = .returned (.tuple #[]) ∧ ∃ G, HQ w' p G (l ++ [e]) ∧ StepQ F G w w' := by
  obtain ⟨bm, sv, h, hF⟩ := h
  refine (rpush_any h e hk hl).mono fun x w' ⟨hx, sv', h', hu, hb⟩ => ⟨hx, footR p bm sv', ⟨bm, sv', h', fun _ => Iff.rfl⟩, hu.mono fun k _ hk => (hF k).1 hk, ?_⟩
  rintro k (rfl | rfl | hk)
  · exact .inl ((hF _).1 (.inl rfl))
  · exact .inl ((hF _).1 (.inr (.inl rfl)))
  · exact (hb k hk).imp_left fun h => (hF k).1 (.inr (.inr h))

theorem pop_q {w : World} {p : Nat} {F : Nat → Prop} {l : List En} (h : HQ w p F l) {n : Nat} (hn : l.length = n + 1) {e : En} (he : atE l n = e) :
    Calls Try.prog 40 #[.pointer (some ⟨p, 0, none⟩)] w fun x w' => x = .returned (.iface 59 (.agg #[.int .i64 e.1, .int .i64 e.2])) ∧ HQ w' p F (l.take n) ∧ Upon F w w' := by
  obtain ⟨bm, sv, h, hF⟩ := h
  subst he
  refine (rpop_any h hn).mono fun x w' ⟨hx, sv', h', hu, hb⟩ => ⟨hx, ⟨bm, sv', h', fun k => ?_⟩, hu.mono fun k _ hk => (hF k).1 hk⟩
  rw [← hF k]
  unfold footR
  rw [hb]

theorem heap_snoc {l : List En} (e : En) (h : HeapF (atE l) l.length) : UpInv (atE (l ++ [e])) (l.length + 1) l.length :=
  UpInv.push (h.congr fun k hk => by simp [atE, List.getElem?_append_left hk])
theorem take_last {l : List En} {n : Nat} (hn : l.length = n + 1) : l.take n ++ [atE l n] = l := by
  have h : n < l.length := by omega
  rw [atE_get h, ← List.take_succ_eq_append_getElem h, List.take_of_length_le (by omega)]
theorem heap_take {l : List En} {n : Nat} (hn : l.length = n + 1) (h : HeapF (atE l) n) : HeapF (atE (l.take n)) (l.take n).length := by
  have e : (l.take n).length = n := by simp; omega
  rw [e]
  exact h.congr fun k hk => by simp [atE, hk]

def PushPost (p : Nat) (F : Nat → Prop) (l : List En) (e : En) (w : World) (x : Ending) (w' : World) : Prop :=
  x = .returned (.tuple #[]) ∧ ∃ G l', HQ w' p G l' ∧ l'.Perm (l ++ [e]) ∧ HeapF (atE l') l'.length ∧ StepQ F G w w'

theorem hpush_any {w : World} {p : Nat} {F : Nat → Prop} {l : List En} (h : HQ w p F l) (hh : HeapF (atE l) l.length) (e : En) (hk : ∀ x ∈ l, x.1 ≠ e.1) (hl : l.length < 100000) :
    Calls Try.prog 17 #[.iface 46 (.pointer (some ⟨p, 0, none⟩)), .iface 59 (.agg #[.int .i64 e.1, .int .i64 e.2])] w (PushPost p F l e w) := by
  have HP := Lib.hid (push_q h e hk hl)
  have HU := Lib.hid (heap_snoc e hh)
  clear h hh hk
  go_enter Try.func17, Try.ntmps17
  go_wp2_with fail
  refine (HP.out).mono ?_
  rintro x w1 ⟨rfl, G, hq, hs⟩
  have HQ1 := Lib.hid hq
  have HS1 := Lib.hid hs
  clear hq hs HP
  go_wp2_with fail
  refine (len_q HQ1.out).mono ?_
  rintro x w2 ⟨rfl, rfl⟩
  have e1 : ((l ++ [e]).length : Int) - 1 = (l.length : Int) := by simp
  have e2 : ((l ++ [e]).length : Int) = (l.length : Int) + 1 := by simp
  rw [e2]
  clear e1 e2
  go_wp2_with fail
  refine (up_any HQ1.out (n := l.length + 1) (j := l.length) (by simp) (by omega) HU.out).mono ?_
  rintro x w2 ⟨rfl, l', hq2, hmv, hhp, hu⟩
  have HQ2 := Lib.hid hq2
  have HM := Lib.hid hmv
  have HH := Lib.hid hhp
  have HUU := Lib.hid hu
  clear hq2 hmv hhp hu
  go_wp2_with fail
  go_end0
  have hlen : l'.length = l.length + 1 := by rw [HM.out.len]; simp
  exact ⟨rfl, G, l', HQ2.out, HM.out.perm, by rw [hlen]; exact HH.out, HS1.out.chain (StepQ.of_upon HUU.out)⟩

def RemPost (p : Nat) (F : Nat → Prop) (l : List En) (e : En) (w : World) (x : Ending) (w' : World) : Prop :=
  x = .returned (.iface 59 (.agg #[.int .i64 e.1, .int .i64 e.2])) ∧ ∃ l', HQ w' p F l' ∧ (l' ++ [e]).Perm l ∧ HeapF (atE l') l'.length ∧ Upon F w w'

set_option maxHeartbeats 1600000 in
theorem hremove_any {w : World} {p : Nat} {F : Nat → Prop} {l : List En} (h : HQ w p F l) (hh : HeapF (atE l) l.length) {i : Nat} (hi : i < l.length) {e : En} (he : atE l i = e) :
    Calls Try.prog 20 #[.iface 46 (.pointer (some ⟨p, 0, none⟩)), .int .i64 i] w (RemPost p F l e w) := by
  obtain ⟨n, hn⟩ : ∃ n, l.length = n + 1 := ⟨l.length - 1, by omega⟩
  have hm := h.max
  have e0 : (l.length : Int) - 1 = (n : Int) := by omega
  have H := Lib.hid h
  have HH := Lib.hid hh
  have HN := Lib.hid hn
  have HE := Lib.hid he
  by_cases hin : i = n
  · have f1 : ((n : Int) != (i : Int)) = false := by rw [hin]; simp
    have HI := Lib.hid hin
    clear h hh hn he hin
    go_enter Try.func20, Try.ntmps20
    go_wp2_with fail
    refine (len_q H.out).mono ?_
    rintro x w2 ⟨rfl, rfl⟩
    go_wp2_with fail
    refine (pop_q H.out HN.out (e := e) (by rw [← HI.out]; exact HE.out)).mono ?_
    rintro x w2 ⟨rfl, hq, hu⟩
    have HQ2 := Lib.hid hq
    have HU := Lib.hid hu
    clear hq hu
    go_wp2_with fail
    go_ret
    refine ⟨rfl, l.take n, HQ2.out, ?_, heap_take HN.out (HH.out.mono (by have := HN.out; omega)), HU.out⟩
    rw [← HE.out, HI.out, take_last HN.out]
  · have f1 : ((n : Int) != (i : Int)) = true := by simp; omega
    have hin' : i < n := by omega
    have hst : DnInv (atE (swp l i n)) n i i := by
      rw [atE_swp hi (by omega)]
      exact dn_start (by rw [← hn]; exact hh) hin'
    have hlast : atE (swp l i n) n = e := by rw [atE_swp hi (by omega), ← he]; unfold swpF; rw [if_pos rfl]
    have HST := Lib.hid hst
    have HLA := Lib.hid hlast
    clear h hh hn he hin hst hlast
    go_enter Try.func20, Try.ntmps20
    go_wp2_with fail
    refine (len_q H.out).mono ?_
    rintro x w2 ⟨rfl, rfl⟩
    go_wp2_with fail
    refine (swap_q H.out (i := i) (j := n) hi (by have := HN.out; omega) (by omega)).mono ?_
    rintro x w1 ⟨rfl, hq1, hu1⟩
    have HQ1 := Lib.hid hq1
    have HU1 := Lib.hid hu1
    clear hq1 hu1
    go_wp2_with fail
    refine (down_any HQ1.out (n := n) (s := i) (by rw [length_swp]; have := HN.out; omega) hin' HST.out).mono ?_
    rintro x w2 ⟨b, l2, rfl, hq2, hmv, hu2, hyes, hno⟩
    have hl2 : l2.length = n + 1 := by rw [hmv.len, length_swp]; exact HN.out
    have hla2 : atE l2 n = e := by rw [hmv.same n (Nat.le_refl _)]; exact HLA.out
    have hpm : l2.Perm l := hmv.perm.trans (swp_perm hi (by have := HN.out; omega))
    have HQ2 := Lib.hid hq2
    have HU2 := Lib.hid (HU1.out.trans hu2 fun _ _ h => h)
    have HL2 := Lib.hid hl2
    have HLA2 := Lib.hid hla2
    have HPM := Lib.hid hpm
    clear hq2 hmv hu2 hl2 hla2 hpm
    cases b with
    | true =>
      have HY := Lib.hid (hyes rfl)
      clear hyes hno
      go_wp2_with fail
      refine (pop_q HQ2.out HL2.out HLA2.out).mono ?_
      rintro x w3 ⟨rfl, hq3, hu3⟩
      have HQ3 := Lib.hid hq3
      have HU3 := Lib.hid (HU2.out.trans hu3 fun _ _ h => h)
      clear hq3 hu3
      go_wp2_with fail
      go_ret
      refine ⟨rfl, l2.take n, HQ3.out, ?_, heap_take HL2.out HY.out, HU3.out⟩
      rw [← HLA2.out, take_last HL2.out]
      exact HPM.out
    | false =>
      have HY := Lib.hid (hno rfl)
      clear hyes hno
      go_wp2_with fail
      refine (up_any HQ2.out (n := n) (j := i) (by have := HL2.out; omega) hin' HY.out).mono ?_
      rintro x w3 ⟨rfl, l3, hq3, hmv3, hhp3, hu3⟩
      have hl3 : l3.length = n + 1 := by rw [hmv3.len]; exact HL2.out
      have hla3 : atE l3 n = e := by rw [hmv3.same n (Nat.le_refl _)]; exact HLA2.out
      have HQ3 := Lib.hid hq3
      have HU3 := Lib.hid (HU2.out.trans hu3 fun _ _ h => h)
      have HL3 := Lib.hid hl3
      have HLA3 := Lib.hid hla3
      have HPM3 := Lib.hid (hmv3.perm.trans HPM.out)
      have HH3 := Lib.hid hhp3
      clear hq3 hmv3 hhp3 hu3 hl3 hla3
      go_wp2_with fail
      refine (pop_q HQ3.out HL3.out HLA3.out).mono ?_
      rintro x w4 ⟨rfl, hq4, hu4⟩
      have HQ4 := Lib.hid hq4
      have HU4 := Lib.hid (HU3.out.trans hu4 fun _ _ h => h)
      clear hq4 hu4
      go_wp2_with fail
      go_ret
      refine ⟨rfl, l3.take n, HQ4.out, ?_, heap_take HL3.out HH3.out, HU4.out⟩
      rw [← HLA3.out, take_last HL3.out]
      exact HPM3.out

end Go.Proofs.Ytgcmkhbpkmfpkaa
