/-
  Push of the document's queue.
  Conditions: as stated.
-/
import Derived.Test.YtgcmkhbpkmfpkaaQS
import Derived.Deep.DeepCutAuto
import Derived.Deep.CutBlock
import Derived.Outline
namespace Go.Proofs.Ytgcmkhbpkmfpkaa
open Go.ChangeShapes Go.WideShapes Go.ChangeAt Go.RowKit
set_option linter.unusedVariables false
set_option linter.unusedSimpArgs false
set_option maxRecDepth 100000

/-- Where an entry comes in. -/
def posE (e : En) : List En → Nat
  | [] => 0
  | f :: t => if ltE f e then posE e t + 1 else 0
theorem posE_le (e : En) : ∀ s : List En, posE e s ≤ s.length
  | [] => Nat.le_refl _
  | f :: t => by
    unfold posE
    have := posE_le e t
    split <;> simp <;> omega
theorem insE_pos (e : En) : ∀ s : List En, insE e s = s.take (posE e s) ++ e :: s.drop (posE e s)
  | [] => rfl
  | f :: t => by
    unfold insE posE
    split
    · rw [insE_pos e t]; rfl
    · rfl
theorem posE_lt (e : En) : ∀ (s : List En) (j : Nat) (hj : j < s.length), j < posE e s → ltE s[j] e
  | [], _, hj, _ => by simp at hj
  | f :: t, j, hj, h => by
    unfold posE at h
    split at h
    · rename_i hf
      cases j with
      | zero => exact hf
      | succ j => exact posE_lt e t j (by simpa using hj) (by omega)
    · omega
theorem posE_at (e : En) : ∀ (s : List En) (h : posE e s < s.length), ¬ ltE s[posE e s] e
  | [], h => by simp at h
  | f :: t, h => by
    by_cases hf : ltE f e
    · have e1 : posE e (f :: t) = posE e t + 1 := by rw [posE, if_pos hf]
      simp only [e1, List.getElem_cons_succ]
      exact posE_at e t (by rw [e1] at h; simpa using h)
    · have e1 : posE e (f :: t) = 0 := by rw [posE, if_neg hf]
      simp only [e1, List.getElem_cons_zero]
      exact hf

theorem rpush_there {w : World} {pr : Nat} {a : Option Addr} {c : Nat} {s : List En} (h : RefQ w pr a c s) {k : Int} (hk : ∃ x ∈ s, x.1 = k) (r : Int) :
    Calls Try.prog 9 #[.pointer (some ⟨pr, 0, none⟩), .int .i64 k, .int .i64 r] w fun e w' => e = .returned (.bool false) ∧ w = w' := by
  obtain ⟨x, hx, hxk⟩ := hk
  obtain ⟨j0, hj0, rfl⟩ := List.getElem_of_mem hx
  have c0 : w.cell? ⟨pr, 0, none⟩ = some (.slice a s.length c) := (h.root.cell 0).trans rfl
  have hm := h.max
  have HC : Hid (∀ i (hi : i < s.length), ∃ b o, a = some ⟨b, o, none⟩ ∧ w.cell? ⟨b, o + i * 2, none⟩ = some (.int .i64 s[i].1)) := fun i hi => by
    obtain ⟨b, o, e, c1, _⟩ := h.cell hi
    exact ⟨b, o, e, c1⟩
  have HX := Lib.hid hxk
  clear h hx hxk
  go_enter Try.func9, Try.ntmps9
  go_wp2_with fail
  go_loop [7] (fun iv => ∃ i : Nat, i ≤ j0 ∧ iv = .int .i64 i) (fun iv => s.length - (intOf iv).toNat)
  case atStart => exact ⟨0, Nat.zero_le _, rfl⟩
  case round =>
    obtain ⟨i, hi2, rfl⟩ := hrel
    obtain ⟨b, o, hab, c1⟩ := HC.out i (by omega)
    cases hab
    have hii : (i : Int) < (s.length : Int) := by omega
    by_cases he : s[i].1 = k
    · have f1 : (s[i].1 == k) = true := by simpa using he
      clear he
      go_wp2_with fail
      go_ret
      exact ⟨rfl, rfl⟩
    · have f1 : (s[i].1 == k) = false := by simpa using he
      have hne : i ≠ j0 := by rintro rfl; exact he HX.out
      clear he
      go_wp2_with fail
      go_round
      case rel => exact ⟨i + 1, by omega, by go_num⟩
      case measure => simp [intOf]; omega

abbrev pairO (k r : Int) : Obj := .cells #[.int .i64 k, .int .i64 r] 35
section
variable {W : World} {pr : Nat} {a : Option Addr} {c : Nat} {s : List En}
theorem own_srcQ {w : World} {B b : Nat} {t : TypeId} {xs : List Value} {n c : Nat} (h : w.ownsRow B t 2 (.slice (some ⟨b, 0, none⟩) n c) n xs) (m : Nat) : m = 0 ∨ ∃ ad, (some (⟨b, 0, none⟩ : Addr)) = some ad ∧ ∀ j u, xs[j]? = some u → w.cell? (ad.add j) = some u := by
  refine .inr ⟨_, rfl, fun j u hj => ?_⟩
  rcases owns_parts h with ⟨h0, _⟩ | ⟨g, cap, rest, h1, _, hr, _⟩
  · cases h0
  · cases h1
    rw [Addr.add_lit, hr.cell, Nat.zero_add, List.getElem?_append_left (List.getElem?_eq_some_iff.1 hj).1]
    exact hj
theorem owns_rowQ {w : World} {B b : Nat} {t : TypeId} {xs : List Value} {n : Nat} (h : rowAt w b t xs) (hB : B ≤ b) (hl : xs.length = n * 2) (hn : n ≤ 1) : w.ownsRow B t 2 (.slice (some ⟨b, 0, none⟩) n n) n xs :=
  owns_mk (rest := []) (by simpa using h) hB hl (by simpa using hl) (Nat.le_refl _) (by unfold maxLen; omega)
/-- The empty row laid, then the pair; the pair, then the empty row. -/
theorem start_epQ (h : RefQ W pr a c s) (k r : Int) : AroundQ W pr a c s ((W.alloc (.cells #[] 35)).alloc (pairO k r)).drew ∧
    ((W.alloc (.cells #[] 35)).alloc (pairO k r)).drew.ownsRow W.heap.size 35 2 (.slice (some ⟨W.heap.size, 0, none⟩) 0 0) 0 [] ∧
    ((W.alloc (.cells #[] 35)).alloc (pairO k r)).drew.ownsRow W.heap.size 35 2 (.slice (some ⟨W.heap.size + 1, 0, none⟩) 1 1) 1 [.int .i64 k, .int .i64 r] :=
  ⟨((AroundQ.start h).alloc _).alloc _, owns_rowQ (((rowAt.made_at _ [] rfl).alloc _).drew) (Nat.le_refl _) rfl (by omega), owns_rowQ ((rowAt.made_at _ _ (by simp)).drew) (by omega) rfl (by omega)⟩
theorem start_peQ (h : RefQ W pr a c s) (k r : Int) : AroundQ W pr a c s ((W.alloc (pairO k r)).alloc (.cells #[] 35)).drew ∧
    ((W.alloc (pairO k r)).alloc (.cells #[] 35)).drew.ownsRow W.heap.size 35 2 (.slice (some ⟨W.heap.size + 1, 0, none⟩) 0 0) 0 [] ∧
    ((W.alloc (pairO k r)).alloc (.cells #[] 35)).drew.ownsRow W.heap.size 35 2 (.slice (some ⟨W.heap.size, 0, none⟩) 1 1) 1 [.int .i64 k, .int .i64 r] :=
  ⟨((AroundQ.start h).alloc _).alloc _, owns_rowQ ((rowAt.made_at _ [] (by simp)).drew) (by omega) rfl (by omega), owns_rowQ (((rowAt.made_at _ _ rfl).alloc _).drew) (Nat.le_refl _) rfl (by omega)⟩
theorem pair_behindQ {w : World} {v : Value} {n : Nat} {xs : List Value} (hA : AroundQ W pr a c s w) (ho : w.ownsRow W.heap.size 35 2 v n xs) (k r : Int) : AroundQ W pr a c s (w.alloc (pairO k r)) ∧ (w.alloc (pairO k r)).ownsRow W.heap.size 35 2 v n xs ∧
    (w.alloc (pairO k r)).ownsRow W.heap.size 35 2 (.slice (some ⟨w.heap.size, 0, none⟩) 1 1) 1 [.int .i64 k, .int .i64 r] :=
  ⟨hA.alloc _, owns_upon ho (Upon.alloc (fun _ => False) _ _) fun _ _ h => h, owns_rowQ (rowAt.made_at _ _ rfl) hA.below.size rfl (by omega)⟩
end

/-- An append beside another row of the call's own. -/
theorem step_append_besideQ {w w0 : World} {pr : Nat} {ra : Option Addr} {rc : Nat} {rs : List En} {i : TypeInfo} (hi : Try.prog.info? 35 = some i) (hz : i.zero = some (.agg #[.int .i64 0, .int .i64 0])) (hsize : i.size = 2) (hby : i.bytes = 16)
    {ops : Array Oper} {o : Oper} {a : Act} {K : Act → World → Prop} {Q : Exit → Act → World → Prop} {E : Prop} (hgd : o.guard = none) (s x : Operand)
    (ho : o.op = .call { callee := .builtin .append, args := #[s, x], argTypes := #[26, 26] })
    (v : Value) (n : Nat) (xs : List Value) (u : Value) (ys : List Value) (hs : a.eval s = v) (hA : AroundQ w0 pr ra rc rs w ∧ w.ownsRow w0.heap.size 35 2 v n xs ∧ w.ownsRow w0.heap.size 35 2 u 1 ys) (hne : ∀ g, v.ownBlock = some g → u.ownBlock ≠ some g)
    (xa : Option Addr) (m c : Nat) (news : List Value) (hx : a.eval x = .slice xa m c) (hl : news.length = m * 2) (hsrc : m = 0 ∨ ∃ ad, xa = some ad ∧ ∀ j u, news[j]? = some u → w.cell? (ad.add j) = some u) (h1 : ∀ u ∈ news, u.oneCell' = true)
    (h63 : n + m ≤ 200002)
    (h : ∀ v' w', w'.ownsRow w0.heap.size 35 2 v' (n + m) (xs ++ news) → AroundQ w0 pr ra rc rs w' → w'.cell? ⟨pr, 0, none⟩ = some (.slice ra rs.length rc) → w'.frozen? ⟨pr, 0, none⟩ = false → w'.ownsRow w0.heap.size 35 2 u 1 ys → K (a.put o.dst v') w') :
    if Region.wanted o (yielded ops a.tmps) = true then Oper.wp Try.prog o a w K Q else E :=
  step_append_w hgd s x _ ho w0.heap.size 35 i (.agg #[.int .i64 0, .int .i64 0]) 2 16 under_pairsI hi hz hsize hby rfl (by decide) v n xs hs hA.2.1 xa m c news hx hl hsrc h1 (by simp only [maxLen]; omega) (by omega) hA.1.below.size
    fun v' w' h2 h3 _ => h v' w' h2 (hA.1.grown hA.2.1 h3) (hA.1.grown hA.2.1 h3).root ((hA.1.grown hA.2.1 h3).ref.root.free 0)
      (owns_upon hA.2.2 (Upon.grown (S := fun b => v.ownBlock = some b) h3 fun k hk => hk) fun g hg e => hne g e hg)

set_option maxHeartbeats 8000000 in
theorem rpush_new {w : World} {pr : Nat} {a : Option Addr} {c : Nat} {s : List En} (h : RefQ w pr a c s) {k r : Int} (hk : ∀ x ∈ s, x.1 ≠ k) (hl : s.length < 100000) :
    Calls Try.prog 9 #[.pointer (some ⟨pr, 0, none⟩), .int .i64 k, .int .i64 r] w fun e w' => e = .returned (.bool true) ∧ RelaidQ pr (insE (k, r) s) w w' := by
  obtain ⟨i0, hi, hz0, hz1, hz2⟩ := info_parts info_pairI
  have c0 : w.cell? ⟨pr, 0, none⟩ = some (.slice a s.length c) := (h.root.cell 0).trans rfl
  have hm := h.max
  have hpl := h.root.lt
  have hcap := h.cap
  have HC : Hid (∀ i (hi : i < s.length), ∃ b o, a = some ⟨b, o, none⟩ ∧ w.cell? ⟨b, o + i * 2, none⟩ = some (.int .i64 s[i].1) ∧ w.cell? ⟨b, o + i * 2 + 1, none⟩ = some (.int .i64 s[i].2)) := fun i hi => h.cell hi
  have HK := Lib.hid hk
  obtain ⟨d, hd⟩ : ∃ d, posE (k, r) s = d := ⟨_, rfl⟩
  have hdl : d ≤ s.length := by rw [← hd]; exact posE_le _ _
  have HLT : Hid (∀ j (hj : j < s.length), j < d → s[j].2 < r ∨ (s[j].2 = r ∧ s[j].1 < k)) := fun j hj h1 => posE_lt (k, r) s j hj (by rw [hd]; exact h1)
  have HAT : Hid (∀ (hj : d < s.length), r < s[d].2 ∨ (s[d].2 = r ∧ k ≤ s[d].1)) := fun hj => by
    subst hd
    have := posE_at (k, r) s hj
    unfold ltE at this
    simp only [] at this
    omega
  have HPOS : Hid (insE (k, r) s = s.take d ++ (k, r) :: s.drop d) := by rw [← hd]; exact insE_pos _ _
  have sl1 := fun w => run_slice_to_w 26 35 under_pairsI hi a (n := s.length) (c := c) (k := d) hdl hcap w
  obtain ⟨xa2, hxa⟩ : ∃ x, x = (if c = d then a else a.map (·.add (d * 2))) := ⟨_, rfl⟩
  have sl2 : ∀ w, (Instr.slice 26 (.slice a s.length c) (some (.int .i64 (d : Int))) none none).run Try.prog w = .ok (.slice xa2 (s.length - d) (c - d)) w := fun w => by
    have h := run_slice_from_w 26 35 under_pairsI hi a (n := s.length) (c := c) (k := d) hdl w
    rw [hz1, ← hxa] at h
    exact h
  have hsrc2 := fun w' (hw : AroundQ w pr a c s w') => AroundQ.from_src hw (i := d) hdl
  simp only [← hxa] at hsrc2
  have HS2 := Lib.hid hsrc2
  have HP : Hid ([Value.int .i64 k, .int .i64 r].length = 1 * 2 ∧ ∀ u ∈ [Value.int .i64 k, .int .i64 r], u.oneCell' = true) := ⟨rfl, oneCell_two k r⟩
  have H := Lib.hid h
  clear h hk hd hsrc2 hxa
  have hdi : (d : Int) ≤ (s.length : Int) := by omega
  go_enter Try.func9, Try.ntmps9
  go_wp2_with fail
  go_loop [7] (fun iv => ∃ i : Nat, i ≤ s.length ∧ iv = .int .i64 i) (fun iv => s.length - (intOf iv).toNat)
  case atStart => exact ⟨0, Nat.zero_le _, rfl⟩
  case round =>
    obtain ⟨i, hi2, rfl⟩ := hrel
    by_cases hlt : i < s.length
    · obtain ⟨b, o, hab, c1, _⟩ := HC.out i hlt
      cases hab
      have hii : (i : Int) < (s.length : Int) := by omega
      have f1 : (s[i].1 == k) = false := by simpa using HK.out _ (List.getElem_mem hlt)
      go_wp2_with fail
      go_round
      case rel => exact ⟨i + 1, by omega, by go_num⟩
      case measure => simp [intOf]; omega
    · have hge : s.length ≤ i := by omega
      have hkd : decide (i < s.length) = false := decide_eq_false (by omega)
      clear hlt
      go_upto_block 2 with fail
      clear hge hkd
      go_cut [8] (fun s8 wx => s8 = .int .i64 d ∧ wx = w)
      case first =>
        go_wp2_with fail
        go_loop [8] (fun iv => ∃ j : Nat, j ≤ d ∧ iv = .int .i64 j) (fun iv => d - (intOf iv).toNat)
        case atStart => exact ⟨0, Nat.zero_le _, rfl⟩
        case round =>
          obtain ⟨j, hj, rfl⟩ := hrel
          by_cases hjd : j < d
          · obtain ⟨b, o, hab, c1, c2⟩ := HC.out j (by omega)
            cases hab
            have hii : (j : Int) < (s.length : Int) := by omega
            have hcmp := HLT.out j (by omega) hjd
            obtain ⟨x, hx⟩ : ∃ x, s[j].1 = x := ⟨_, rfl⟩
            obtain ⟨y, hy⟩ : ∃ x, s[j].2 = x := ⟨_, rfl⟩
            rw [hx] at c1
            rw [hy] at c2
            rw [hx, hy] at hcmp
            clear hx hy
            rcases hcmp with hcmp | ⟨rfl, hcmp⟩
            · go_wp2_with fail
              go_round
              case rel => exact ⟨j + 1, by omega, by go_num⟩
              case measure => simp [intOf]; omega
            · have t1 : (y == y) = true := by simp
              go_wp2_with fail
              go_round
              case rel => exact ⟨j + 1, by omega, by go_num⟩
              case measure => simp [intOf]; omega
          · obtain rfl : j = d := by omega
            clear hjd
            by_cases hdl2 : j < s.length
            · obtain ⟨b, o, hab, c1, c2⟩ := HC.out j hdl2
              cases hab
              have hii : (j : Int) < (s.length : Int) := by omega
              have hcmp := HAT.out hdl2
              obtain ⟨x, hx⟩ : ∃ x, s[j].1 = x := ⟨_, rfl⟩
              obtain ⟨y, hy⟩ : ∃ x, s[j].2 = x := ⟨_, rfl⟩
              rw [hx] at c1
              rw [hy] at c2
              rw [hx, hy] at hcmp
              clear hx hy
              rcases hcmp with hcmp | ⟨rfl, hcmp⟩
              · have t1 : (y == r) = false := by simp; omega
                go_wp2_with fail
                go_meet
                exact ⟨rfl, rfl⟩
              · have t1 : (y == y) = true := by simp
                go_wp2_with fail
                go_meet
                exact ⟨rfl, rfl⟩
            · have hge : s.length ≤ j := by omega
              clear hdl2
              go_wp2_with fail
              go_meet
              exact ⟨rfl, rfl⟩
      case rest =>
        obtain ⟨rfl, rfl⟩ := hcut
        have hR := H.out
        have HST := Lib.hid (fun o => AroundQ.start1 hR o)
        have HEP := Lib.hid (start_epQ hR k r)
        have HPE := Lib.hid (start_peQ hR k r)
        clear hR
        go_wp2_with fail
        go_region_law (first
          | (refine step_append_aroundQ (w0 := wc) hi hz0 hz1 hz2 (by rfl) (.tmp 74) (.tmp 80) (by rfl) (HST.out _) _ 0 [] (by rfl) (owns_emptyQ wc _) _ d c (pairsL (s.take d)) (by rfl) (length_pairsL_take _ _ hdl) ?c1 (oneCell_pairsL _) ?c3 ?_; (case c1 => exact AroundQ.to_src (HST.out _) hdl); (case c3 => omega); intro v1 w1 hown1 hA1 hc1 hf1; rw [Nat.zero_add, List.nil_append] at hown1; have hs1 := hA1.ref.root.lt)
          | (refine step_append_besideQ (w0 := wc) hi hz0 hz1 hz2 (by rfl) (.tmp 74) (.tmp 80) (by rfl) _ 0 [] _ _ (by rfl) HEP.out ?a0 _ d c (pairsL (s.take d)) (by rfl) (length_pairsL_take _ _ hdl) ?a1 (oneCell_pairsL _) ?a3 ?_; (case a0 => simp [Value.ownBlock]); (case a1 => exact AroundQ.to_src HEP.out.1 hdl); (case a3 => omega); intro v1 w1 hown1 hA1 hc1 hf1 hp1; rw [Nat.zero_add, List.nil_append] at hown1; have hs1 := hA1.ref.root.lt)
          | (refine step_append_besideQ (w0 := wc) hi hz0 hz1 hz2 (by rfl) (.tmp 74) (.tmp 80) (by rfl) _ 0 [] _ _ (by rfl) HPE.out ?b0 _ d c (pairsL (s.take d)) (by rfl) (length_pairsL_take _ _ hdl) ?b1 (oneCell_pairsL _) ?b3 ?_; (case b0 => simp [Value.ownBlock]); (case b1 => exact AroundQ.to_src HPE.out.1 hdl); (case b3 => omega); intro v1 w1 hown1 hA1 hc1 hf1 hp1; rw [Nat.zero_add, List.nil_append] at hown1; have hs1 := hA1.ref.root.lt)
          | (refine step_append_aroundQ (w0 := wc) hi hz0 hz1 hz2 (by rfl) (.tmp 81) (.tmp 85) (by rfl) (by assumption) _ d (pairsL (s.take d)) (by rfl) (by assumption) _ 1 1 [.int .i64 k, .int .i64 r] (by rfl) HP.out.1 ?d1 HP.out.2 ?d3 ?_; (case d1 => exact own_srcQ (by assumption) 1); (case d3 => omega); intro v2 w2 hown2 hA2 hc2 hf2; have hs2 := hA2.ref.root.lt)
          | (refine step_append_aroundQ (w0 := wc) hi hz0 hz1 hz2 (by rfl) (.tmp 81) (.tmp 85) (by rfl) (pair_behindQ (by assumption) (by assumption) k r).1 _ d (pairsL (s.take d)) (by rfl) (pair_behindQ (by assumption) (by assumption) k r).2.1 _ 1 1 [.int .i64 k, .int .i64 r] (by rfl) HP.out.1 ?e1 HP.out.2 ?e3 ?_; (case e1 => exact own_srcQ (pair_behindQ (by assumption) (by assumption) k r).2.2 1); (case e3 => omega); intro v2 w2 hown2 hA2 hc2 hf2; have hs2 := hA2.ref.root.lt)
          | (refine step_append_aroundQ (w0 := wc) hi hz0 hz1 hz2 (by rfl) (.tmp 86) (.tmp 92) (by rfl) (by assumption) _ (d + 1) (pairsL (s.take d) ++ [.int .i64 k, .int .i64 r]) (by rfl) (by assumption) _ (s.length - d) (c - d) (pairsL (s.drop d)) (by rfl) (length_pairsL_drop _ _) ?f1 (oneCell_pairsL _) ?f3 ?_; (case f1 => exact HS2.out _ (by assumption)); (case f3 => omega); intro v3 w3 hown3 hA3 hc3 hf3; obtain ⟨a3, n3, rfl⟩ := owns_slice hown3))
        all_goals
          go_wp2_with fail
          go_ret
          exact ⟨rfl, by rw [HPOS.out]; exact relaidQ_end hown3 hA3 (by simp [pairsL]) (by simp; omega) (by simp; omega)⟩

end Go.Proofs.Ytgcmkhbpkmfpkaa
