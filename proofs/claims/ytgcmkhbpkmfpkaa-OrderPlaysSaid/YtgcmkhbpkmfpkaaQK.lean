/-
  The sorted copy of a row: slices.Clone, slices.SortFunc by 'compare'.
  Conditions: as stated.
-/
import Derived.Test.YtgcmkhbpkmfpkaaQJ
import Derived.Test.YtgcmkhbpkmfpkaaShelf
namespace Go.Proofs.Ytgcmkhbpkmfpkaa
open Go.ChangeShapes Go.WideShapes Go.ChangeAt Go.RowKit
set_option linter.unusedVariables false
set_option linter.unusedSimpArgs false
open Go.Shelf
set_option maxRecDepth 100000

theorem flat_eq (l : List En) : Sort.flatK encE 2 l.toArray = (pairsL l).toArray := by
  have hl := length_pairsL l
  refine Sort.ext_get! (by simp [hl]) fun t ht => ?_
  have ht' : t < l.length * 2 := by simpa using ht
  rw [Sort.get_flatK _ _ _ t (by simpa using ht')]
  obtain ⟨h1, h2⟩ := pairsL_get l (t / 2) (by omega)
  have hk : t / 2 < l.length := by omega
  have e : l.toArray[t / 2]! = l[t / 2] := by simp [hk]
  rw [e]
  rcases Nat.mod_two_eq_zero_or_one t with hm | hm
  · have ht2 : t = t / 2 * 2 := by omega
    rw [← ht2] at h1
    rw [hm]
    have : t < (pairsL l).length := by omega
    rw [List.getElem?_eq_getElem this] at h1
    simp [encE, this, Option.some.inj h1]
  · have ht2 : t = t / 2 * 2 + 1 := by omega
    rw [← ht2] at h2
    rw [hm]
    have : t < (pairsL l).length := by omega
    rw [List.getElem?_eq_getElem this] at h2
    simp [encE, this, Option.some.inj h2]

theorem holds_row {w : World} {g : Nat} {l : List En} {rest : List Value} (h : rowAt w g 59 (pairsL l ++ rest)) : Sort.HoldsK encE 2 w g 0 l.toArray := by
  intro j hj
  rw [flat_eq] at hj ⊢
  have hj' : j < (pairsL l).length := by simpa using hj
  refine ⟨?_, h.free _⟩
  rw [h.cell, Nat.zero_add, List.getElem?_append_left hj', List.getElem?_eq_getElem hj']
  simp [hj']

theorem swoE : Sort.SWO (ltOf cmpE) := by
  have e : ∀ x y, ltOf cmpE x y = decide (ltE x y) := fun x y => cmpE_lt x y
  refine ⟨fun x => ?_, fun x y z h1 h2 => ?_, fun x y z h1 h2 => ?_⟩
  · rw [e]; simp [ltE]
  · rw [e, decide_eq_true_eq] at *; exact ltE_trans h1 h2
  · rw [e, decide_eq_false_iff_not] at *; exact not_ltE (leE_trans (leE_of_not h2) (leE_of_not h1))

theorem sort_row {w : World} {g cap : Nat} {xs : List En} {rest : List Value} (h : rowAt w g 59 (pairsL xs ++ rest)) (hl : xs.length ≤ 100000) :
    Calls Try.prog 47 #[.slice (some ⟨g, 0, none⟩) xs.length cap, .func (.func 45) #[] #[]] w fun e w' =>
      e = .returned (.tuple #[]) ∧ ∃ ys : List En, ys.Perm xs ∧ (∀ i j, i < j → j < ys.length → ¬ ltE (atE ys j) (atE ys i)) ∧ rowAt w' g 59 (pairsL ys ++ rest) ∧ Upon (fun k => k = g) w w' := by
  have eg : ∀ args w, (callFunc 45 args).run Try.prog w = .ok (.enter 45 args) w := enters_of Try.func45 (by kernel_rfl) rfl
  have hcon := AnyQ.slices_SortFunc Try.sortEnt 2 Try.isAgg59 Try.sizeOf59 encE (fun _ => rfl) (fun x v hv => by simp [encE] at hv; rcases hv with rfl | rfl <;> rfl) cmpE swoE 45 #[] g 0 cap xs.toArray w eg (fun _ _ _ _ x y => compare_any x y _) (holds_row h) h.lt (by simp; omega)
  change Calls Try.prog 47 #[.slice (some ⟨g, 0, none⟩) xs.length cap, _] _ _ at hcon
  refine hcon.mono fun e w' ⟨he, d', n, os, ⟨hp1, _, hp2⟩, hs, hw⟩ => ⟨he, d'.toList, ?_, ?_, ?_, ?_⟩
  · have hsz : d'.size = xs.length := by simpa using hp1
    have e1 : d'.extract 0 xs.toArray.size = d' := by simp [hsz]
    have e2 : xs.toArray.extract 0 xs.toArray.size = xs.toArray := by simp
    rw [e1, e2] at hp2
    simpa using hp2
  · intro i j hij hj
    have hsz : d'.size = xs.length := by simpa using hp1
    have hj' : j < d'.size := by simpa using hj
    have := hs i j (Nat.zero_le _) hij (by simp; omega)
    have e : ltOf cmpE d'[j]! d'[i]! = decide (ltE d'[j]! d'[i]!) := cmpE_lt _ _
    rw [e, decide_eq_false_iff_not] at this
    have g1 : atE d'.toList j = d'[j]! := by rw [atE_get hj]; simp [hj']
    have g2 : atE d'.toList i = d'[i]! := by rw [atE_get (by omega)]; simp [show i < d'.size by omega]
    rw [g1, g2]
    exact this
  · rw [hw]
    have hlen : (pairsL d'.toList).length = (pairsL xs).length := by
      rw [length_pairsL, length_pairsL]
      have : d'.size = xs.length := by simpa using hp1
      simp [this]
    have hr := rowAt.putRow h id (pairsL d'.toList) n (by rw [List.length_append, hlen]; omega)
    have hd : d' = d'.toList.toArray := by simp
    unfold sortWorldK Sort.putRowK
    rw [hd, flat_eq]
    rw [List.map_id, hlen, List.drop_left] at hr
    unfold rowAt at hr ⊢
    show ((_ : Array Obj) ++ os)[g]? = _
    rw [Array.getElem?_append_left (Array.getElem?_eq_some_iff.1 hr).1]
    exact hr
  · rw [hw]
    have hu := Upon.putRow (S := fun k => k = g) w g n rfl id (Sort.flatK encE 2 d')
    refine ⟨hu.os, hu.tape, hu.output, ?_, fun k hk hs => ?_⟩
    · have := hu.size
      unfold sortWorldK Sort.putRowK Sort.grow
      simp only [Array.size_append]
      omega
    · have := hu.block k hk hs
      have hk2 : k < (Sort.putRow id (Sort.ahead w n) g 0 (Sort.flatK encE 2 d')).heap.size := Nat.lt_of_lt_of_le hk hu.size
      show ((Sort.putRow id (Sort.ahead w n) g 0 (Sort.flatK encE 2 d')).heap ++ os)[k]? = _
      rw [Array.getElem?_append_left hk2]
      exact this

theorem sort_none (p : Option Addr) (cap : Nat) (fv : Value) (w : World) :
    Calls Try.prog 47 #[.slice p 0 cap, fv] w fun e w' => e = .returned (.tuple #[]) ∧ w = w' := by
  have hcon := AnyF.slices_SortFunc_none Try.sortEnt p cap fv w
  change Calls Try.prog 47 _ _ _ at hcon
  exact hcon.mono fun _ _ h => ⟨h.1, h.2.symm⟩

theorem oneCell_pairsL (l : List En) : ∀ v ∈ pairsL l, v.oneCell' = true := by
  intro v hv
  simp only [pairsL, List.mem_flatMap, List.mem_cons, List.not_mem_nil, or_false] at hv
  obtain ⟨r, _, rfl | rfl⟩ := hv <;> rfl

/-- A copy. -/
theorem clone_ents {w : World} {g cap : Nat} {xs : List En} {rest : List Value} (h : rowAt w g 59 (pairsL xs ++ rest)) (hn : xs.length ≤ 100000) :
    Calls Try.prog 46 #[.slice (some ⟨g, 0, none⟩) xs.length cap] w fun e w' =>
      ∃ v', e = .returned v' ∧ w'.ownsRow w.heap.size 59 2 v' xs.length (pairsL xs) ∧ Below w.heap.size w w' := by
  obtain ⟨i0, hi, hz0, hz1, hz2⟩ := info_parts info_entry
  have HC : Hid (∀ j u, (pairsL xs)[j]? = some u → w.cell? ⟨g, 0 + j, none⟩ = some u) := fun j u hj => by
    rw [h.cell, Nat.zero_add, List.getElem?_append_left (List.getElem?_eq_some_iff.1 hj).1]
    exact hj
  clear h
  have q : ∀ (w : World) (a : Option Addr) (n c n' c' : Nat), (binOp .eql 48 (.slice a n c) (.slice none n' c')).run Try.prog w = .ok (.bool a.isNone) w := fun w a n c n' c' => Lib.run_eql_slice_nil w _ _ a n c n' c' under_ents
  go_enter Try.func46, Try.ntmps46
  go_wp2_with (at_builtin; refine wpList_append_own _ rfl _ _ 48 rfl w.heap.size 59 i0 (.agg #[.int .i64 0, .int .i64 0]) 2 16 under_ents hi hz0 hz1 hz2 rfl (by decide) _ _ _ rfl (World.ownsRow_made w #[] 0 (Nat.le_refl _) (Nat.zero_le _) (by simp)) ⟨g, 0, none⟩ xs.length cap (pairsL xs) rfl ?qc1 ?qc2 ?qc3 ?qc4 ?qc5 ?qc6 ?_)
  case qc1 => exact length_pairsL xs
  case qc2 =>
    intro j u hj
    rw [Addr.add_lit]
    exact Lib.cell?_alloc_some _ (HC.out j u hj)
  case qc3 => exact oneCell_pairsL xs
  case qc4 => simp only [maxLen]; omega
  case qc5 => omega
  case qc6 => simp
  intro v' w1 hown hgrow hnil
  go_wp2
  go_ret
  refine ⟨v', rfl, by simpa using hown, ?_⟩
  exact ((Below.refl _ w).alloc (Nat.le_refl _) _).grown hgrow (by simp) (by intro k hk; simp [Value.ownBlock] at hk; omega)
theorem clone_ents_nil (w : World) (n c : Nat) :
    Calls Try.prog 46 #[.slice none n c] w fun e w' => e = .returned (.slice none 0 0) ∧ w = w' := by
  have q : ∀ (w : World) (a : Option Addr) (n c n' c' : Nat), (binOp .eql 48 (.slice a n c) (.slice none n' c')).run Try.prog w = .ok (.bool a.isNone) w := fun w a n c n' c' => Lib.run_eql_slice_nil w _ _ a n c n' c' under_ents
  go_enter Try.func46, Try.ntmps46
  go_wp2
  go_ret
  exact ⟨rfl, rfl⟩

/-- What a sorted row of entries with keys of their own is. -/
theorem rises_of {ys l s : List En} (hp : ys.Perm l) (hs : ∀ i j, i < j → j < ys.length → ¬ ltE (atE ys j) (atE ys i)) (h : Sorts l s) (hn : (l.map (·.1)).Nodup) : ys = s := by
  refine rises_eq ?_ h.rises (hp.trans h.perm)
  have hn2 : (ys.map (·.1)).Nodup := ((hp.map (·.1)).nodup_iff).2 hn
  rw [List.nodup_iff_pairwise_ne, List.pairwise_iff_getElem] at hn2
  unfold Rises
  rw [List.pairwise_iff_getElem]
  intro i j hi hj hij
  have h1 := hs i j hij hj
  rw [atE_get hi, atE_get hj] at h1
  have h2 := hn2 i j (by simpa using hi) (by simpa using hj) hij
  simp only [List.getElem_map] at h2
  exact ltE_of_le_key (leE_of_not h1) h2

theorem rsorted_any {w : World} {p : Nat} {F : Nat → Prop} {l s : List En} (h : HQ w p F l) (hs : Sorts l s) :
    Calls Try.prog 44 #[.pointer (some ⟨p, 0, none⟩)] w fun e w' => ∃ v, e = .returned v ∧ w'.ownsRow w.heap.size 59 2 v s.length (pairsL s) ∧ Below w.heap.size w w' := by
  have hnd := h.nodup
  have hmax := h.max
  obtain ⟨bm, sv, h, hF⟩ := h
  have c0 : w.cell? ⟨p, 0, none⟩ = some sv := (h.root.cell 0).trans rfl
  rcases owns_parts h.ents with ⟨rfl, hn, _⟩ | ⟨g, cap, rest, rfl, _, h2, h3, h4, h5, h6⟩
  · have hs0 : s = [] := List.length_eq_zero_iff.1 (by rw [← hs.perm.length_eq]; exact hn)
    have HS := Lib.hid hs0
    clear h hF hs hn hs0
    go_enter Try.func44, Try.ntmps44
    go_wp2_with fail
    refine (clone_ents_nil _ _ _).mono ?_
    rintro x w2 ⟨rfl, rfl⟩
    go_wp2_with fail
    refine (sort_none _ _ _ _).mono ?_
    rintro x w2 ⟨rfl, rfl⟩
    go_wp2_with fail
    go_ret
    exact ⟨_, rfl, by rw [HS.out]; exact World.ownsRow_nil _ _ _ _, Below.refl _ _⟩
  · have HC := Lib.hid (clone_ents (cap := cap) h2 hmax)
    have HSO := Lib.hid hs
    have HN := Lib.hid hnd
    have HL := Lib.hid hs.perm.length_eq
    clear h hF hs h2 h3 h4 hnd
    go_enter Try.func44, Try.ntmps44
    go_wp2_with fail
    refine (HC.out).mono ?_
    rintro x w1 ⟨v', rfl, hown, hb⟩
    rcases owns_parts hown with ⟨rfl, hn, _⟩ | ⟨g', cap', rest', rfl, hg', r2, r3, r4, r5, r6⟩
    · have hs0 : s = [] := List.length_eq_zero_iff.1 (by rw [← HL.out]; exact hn)
      have HS := Lib.hid hs0
      have HB := Lib.hid hb
      clear hown hn hs0 hb
      go_wp2_with fail
      refine (sort_none _ _ _ _).mono ?_
      rintro x w2 ⟨rfl, rfl⟩
      go_wp2_with fail
      go_ret
      exact ⟨_, rfl, by rw [HS.out]; exact World.ownsRow_nil _ _ _ _, HB.out⟩
    · have HS := Lib.hid (sort_row (cap := cap') r2 hmax)
      have HB := Lib.hid hb
      have HR := Lib.hid (And.intro hg' (And.intro r3 (And.intro r4 (And.intro r5 r6))))
      clear hown r2 r3 r4 hb
      go_wp2_with fail
      refine (HS.out).mono ?_
      rintro x w2 ⟨rfl, ys, hp, hso, hr, hu⟩
      have hys := rises_of hp hso HSO.out HN.out
      subst hys
      have HRR := Lib.hid hr
      have HU := Lib.hid hu
      have HPL := Lib.hid hp.length_eq
      clear hp hso hr hu
      go_wp2_with fail
      go_ret
      obtain ⟨q1, q2, q3, q4, q5⟩ := HR.out
      refine ⟨_, rfl, ?_, ?_⟩
      · have e := HL.out
        have hy := length_pairsL ys
        have hll := length_pairsL l
        have : (Value.slice (some ⟨g', 0, none⟩) l.length cap') = .slice (some ⟨g', 0, none⟩) ys.length cap' := by rw [HPL.out]
        rw [this]
        exact owns_mk HRR.out q1 hy (by omega) (by omega) q5
      · have x : Below w.heap.size w1 w2 := HU.out.belowB HB.out.size fun k hk => by rw [hk]; exact q1
        exact HB.out.trans x

end Go.Proofs.Ytgcmkhbpkmfpkaa
