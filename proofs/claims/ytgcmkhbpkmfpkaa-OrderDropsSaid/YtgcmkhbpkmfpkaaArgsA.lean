/-
  A law's argument that is a slice of arrays of integers.
  Conditions: as stated.
-/
import Derived.Test.YtgcmkhbpkmfpkaaArgs
namespace Go.Proofs.Ytgcmkhbpkmfpkaa
open Go.ChangeShapes Go.WideShapes Go.ChangeAt Go.RowKit Go.Deep
set_option linter.unusedVariables false
set_option linter.unusedSimpArgs false

section
variable {H : Type} {enc : TypeId × Value → H} {P : Program} {w : World} {base : Nat} {spare : Nat → Bool} {held : Bool}

theorem open_slice_array {t e eb : TypeId} (m : Nat) (kk : IntKind) {v : Value} {d : DataW H} {ps : List MemPlace} {r : Reach} {b0 : Nat} (ht : P.underlying t = some (.slice e)) (he : P.underlying e = some (.array m eb)) (heb : P.underlying eb = some (.int kk)) (hcb : P.cellsOf eb = 1) (hC : P.cellsOf e = m) (hpos : 0 < m)
    (hval : Value.okWide P w r b0 t v) (h : DataW.Trod enc P w base spare held t v d ps) :
    ∃ n f, structsAt w v n (List.replicate m kk) f ∧ n ≤ maxLen := by
  obtain ⟨ks, hks⟩ : ∃ ks, List.replicate m kk = ks := ⟨_, rfl⟩
  have hkl : ks.length = m := by rw [← hks]; simp
  have hkk : ∀ j k, ks[j]? = some k → j < m ∧ k = kk := by
    intro j k hj
    rw [← hks, List.getElem?_replicate] at hj
    split at hj
    · rename_i hjm; exact ⟨hjm, (Option.some.inj hj).symm⟩
    · cases hj
  have hC : P.cellsOf e = ks.length := by rw [hkl]; exact hC
  have hpos : ∃ k, ks[0]? = some k := ⟨kk, by rw [← hks, List.getElem?_replicate, if_pos hpos]⟩
  rw [hks]
  obtain ⟨fuel, hf⟩ := h
  have hcs : v.cells.toList = [v] := by
    cases v with
    | agg cs =>
      exfalso
      unfold Value.okWide at hval
      rw [ht] at hval
      rcases DataW.trod_slice ht hf with ⟨h1, _⟩ | ⟨a, len, cap, el, re, n, _, h1, _⟩
      all_goals
        simp only [Value.cells] at h1
        obtain ⟨cs⟩ := cs
        simp only at h1
        subst h1
        simp [Cell.okWide, ht, Cell.ok] at hval
    | _ => rfl
  rw [hcs] at hf
  rcases DataW.trod_slice ht hf with ⟨h1, _⟩ | ⟨a, len, cap, el, re, n, _, h1, _, hb, hl, hm, hlen, hel, _⟩
  · obtain rfl : v = .slice none 0 0 := by simpa using h1
    exact ⟨0, fun _ _ => 0, ⟨_, _, rfl, by intro i j k hi; omega, .inl rfl⟩, Nat.zero_le _⟩
  · obtain rfl : v = .slice (some a) len cap := by simpa using h1
    have each : ∀ i, i < len → ∃ g : Nat → Int, ∀ j k, ks[j]? = some k → w.cell? (a.add (i * ks.length + j)) = some (.int k (g j)) ∧ (Lit.int k (g j)).wf = true := by
      intro i hi
      have h2 := hel i hi
      rw [hC, List.getElem?_eq_getElem (by omega)] at h2
      cases hc : w.cells? base (a.add (i * ks.length)) ks.length with
      | none => rw [hc] at h2; simp at h2
      | some cs =>
        rw [hc] at h2
        simp only [Option.bind_some] at h2
        obtain ⟨_, hcl, hat⟩ := World.cells?_some hc
        obtain ⟨xs, n', _, _, hlen2, hxl, hg⟩ := DataW.trod_array he h2
        refine ⟨fun j => intOf (cs.getD j (.bool false)), fun j k hk => ?_⟩
        have hj := (List.getElem?_eq_some_iff.1 hk).1
        obtain ⟨hjm, rfl⟩ := hkk j k hk
        have hui := heb
        have h3 := hg j hjm
        have hdt : (cs.drop (j * P.cellsOf eb)).take (P.cellsOf eb) = [cs[j]'(by omega)] := by
          rw [hcb, Nat.mul_one, List.drop_eq_getElem_cons (by omega)]
          rfl
        rw [hdt, List.getElem?_eq_getElem (by omega)] at h3
        obtain ⟨z, hz, _, hw⟩ := DataW.trod_int hui h3
        have hz' : cs[j]'(by omega) = .int k z := by simpa using hz
        have hgd : intOf (cs.getD j (.bool false)) = z := by
          rw [List.getD_eq_getElem?_getD, List.getElem?_eq_getElem (by omega)]
          simp [hz', intOf]
        rw [← Go.Deep.add_add, hat j hj, List.getElem?_eq_getElem (by omega), hz']
        show some (Value.int k z) = some (Value.int k (intOf (cs.getD j (.bool false)))) ∧ (Lit.int k (intOf (cs.getD j (.bool false)))).wf = true
        rw [hgd]
        exact ⟨rfl, hw⟩
    let f : Nat → Nat → Int := fun i => if hi : i < len then Classical.choose (each i hi) else fun _ => 0
    have hff : ∀ i j k, i < len → ks[j]? = some k → w.cell? (a.add (i * ks.length + j)) = some (.int k (f i j)) ∧ (Lit.int k (f i j)).wf = true := by
      intro i j k hi hk
      have := Classical.choose_spec (each i hi) j k hk
      simp only [f, hi, dif_pos]
      exact this
    refine ⟨len, f, ⟨some a, cap, rfl, fun i j k hi hk => (hff i j k hi hk).2, ?_⟩, by omega⟩
    by_cases h0 : len = 0
    · exact .inl h0
    · obtain ⟨k0, hk0⟩ := hpos
      have hs : (w.cell? (a.add 0)).isSome = true := by
        have := (hff 0 0 k0 (by omega) hk0).1
        simp only [Nat.zero_mul, Nat.zero_add] at this
        rw [this]; rfl
      exact .inr ⟨a.block, a.off, congrArg some (eta_of_cell hs), fun i j k hi hk => add_of_cell hs (hff i j k hi hk).1⟩
end
end Go.Proofs.Ytgcmkhbpkmfpkaa
