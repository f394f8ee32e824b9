/-
  slices.Insert of one int, slices.Delete of one int, slices.BinarySearch of an int that is there, slices.Clone of []uint64: in the words of 'ownsRow'.
  Conditions: as each states.
-/
import Derived.Test.YtnjpjhlodamanaaMem
import Derived.Test.YtnjpjhlodamanaaShelf
namespace Go.Proofs.Ytnjpjhlodamanaa
open Go.ChangeShapes Go.WideShapes Go.ChangeAt Go.RowKit
set_option linter.unusedVariables false
set_option linter.unusedSimpArgs false

abbrev ints (xs : List Int) : List Value := xs.map (Value.int .i64)
abbrev words (xs : List Int) : List Value := xs.map (Value.int .u64)

theorem oneCell_ints (xs : List Int) : ∀ v ∈ ints xs, v.oneCell' = true := by
  intro v hv
  obtain ⟨x, _, rfl⟩ := List.mem_map.1 hv
  rfl
theorem oneCell_words (xs : List Int) : ∀ v ∈ words xs, v.oneCell' = true := by
  intro v hv
  obtain ⟨x, _, rfl⟩ := List.mem_map.1 hv
  rfl

theorem rowAt.cell_some {w : World} {b : Nat} {T : TypeId} {cs rest : List Value} (h : rowAt w b T (cs ++ rest)) (j : Nat) (v : Value) (hj : cs[j]? = some v) : w.cell? ⟨b, 0 + j, none⟩ = some v := by
  rw [h.cell, Nat.zero_add, List.getElem?_append_left (by exact (List.getElem?_eq_some_iff.1 hj).1)]
  exact hj
theorem rowAt.cell_there {w : World} {b : Nat} {T : TypeId} {cs : List Value} (h : rowAt w b T cs) (j : Nat) (hj : j < cs.length) : (w.cell? ⟨b, j, none⟩).isSome = true := by
  rw [h.cell, List.getElem?_eq_getElem hj]
  rfl

theorem zeroCells_list (z : Value) (hz : z.cells = #[z]) (n : Nat) : (Builtin.zeroCells z.cells n).toList = List.replicate n z := by
  rw [hz]
  simp [Builtin.zeroCells]
  apply List.ext_getElem
  · simp
  · intro i h1 h2
    simp [Nat.mod_one]

theorem zeroI (n : Nat) : (Builtin.zeroCells (Value.int .i64 0).cells n).toList = List.replicate n (.int .i64 0) := zeroCells_list _ rfl n
theorem ren221 : Try.laysNm221_ren.t 3 = 3 := by kernel_rfl
theorem rowAt.made_arr (w : World) (T : TypeId) (cs : Array Value) (l : List Value) (h : cs.toList = l) : rowAt (w.alloc (.cells cs T)) w.heap.size T l := by
  subst h
  exact rowAt.made w T cs.toList

/-- One int more, at place i. -/
theorem insert_own {w : World} {B : Nat} {v : Value} {xs : List Int} (h : w.ownsRow B 3 1 v xs.length (ints xs)) (i : Nat) (hi : i ≤ xs.length) (x : Int) (vb : Nat) (hvb : rowAt w vb 3 [.int .i64 x]) (hne : ∀ g, v.ownBlock = some g → g ≠ vb)
    (hB : B ≤ w.heap.size) (hlen : xs.length ≤ 100000) :
    Calls Try.prog 40 #[v, .int .i64 i, .slice (some ⟨vb, 0, none⟩) 1 1] w fun e w' =>
      ∃ v', e = .returned v' ∧ w'.ownsRow B 3 1 v' (xs.length + 1) (ints (xs.take i ++ x :: xs.drop i)) ∧ Upon (fun k => v.ownBlock = some k) w w' ∧ ∀ g, v'.ownBlock = some g → v.ownBlock = some g ∨ w.heap.size ≤ g := by
  have hvs : ∀ j u, [Value.int .i64 x][j]? = some u → w.cell? ⟨vb, 0 + j, none⟩ = some u := fun j u hj => hvb.cell_some (rest := []) j u hj
  have h1v : ∀ v ∈ [Value.int .i64 x], v.oneCell' = true := by intro v hv; simp at hv; subst hv; rfl
  have hfresh : ∀ (w' : World) (cap : Nat) (zs : List Value), xs.length + 1 ≤ cap → cap ≤ maxLen → rowAt w' w.heap.size 3 (ints (xs.take i ++ x :: xs.drop i) ++ zs) → xs.length + 1 + zs.length = cap → w'.ownsRow B 3 1 (.slice (some ⟨w.heap.size, 0, none⟩) (xs.length + 1) cap) (xs.length + 1) (ints (xs.take i ++ x :: xs.drop i)) := by
    intro w' cap zs h1 h2 h3 h4
    have hl : (ints (xs.take i ++ x :: xs.drop i)).length = xs.length + 1 := by simp; omega
    exact owns_mk h3 hB (by rw [hl]; omega) (by rw [hl]; omega) h1 h2
  rcases owns_parts h with ⟨rfl, h0, h1⟩ | ⟨g, cap, rest, rfl, hg, hr, hl, hcap, hn, hm⟩
  · obtain rfl : xs = [] := List.length_eq_zero_iff.1 h0
    obtain rfl : i = 0 := by simpa using hi
    refine (Any2.slices_Insert_int_end_grow Try.laysNm221 none 0 0 vb 0 1 1 [] [.int .i64 x] w (by omega) (by omega) (by omega) (by omega) rfl rfl (fun _ => rfl) (by simp) hvs h1v).mono ?_
    rintro e w' ⟨he, hw⟩
    rw [ren221] at he hw
    subst he hw
    have hge := grownCap_ge w (0 + 1) 0 3
    have hle := grownCap_le_maxLen w (0 + 1) 0 3 (by decide)
    refine ⟨_, rfl, hfresh _ _ (List.replicate (grownCap w (0 + 1) 0 3 - (0 + 1)) (.int .i64 0)) hge hle ?_ (by simp only [List.length_nil, List.length_replicate]; omega), (Upon.drewN _ w 1).trans (Upon.alloc _ _ _) (fun _ _ h => h), ?_⟩
    · exact rowAt.made_arr w.drew _ _ _ (by simp [zeroI])
    · intro k hk; cases hk; exact .inr (Nat.le_refl _)
  · have hlx : (ints xs).length = xs.length := by simp
    have hcs : ∀ j u, (ints xs)[j]? = some u → w.cell? ⟨g, 0 + j, none⟩ = some u := fun j u hj => hr.cell_some j u hj
    have hgv : g ≠ vb := hne g rfl
    by_cases hroom : xs.length + 1 ≤ cap
    · have hsp : ∀ j, j < xs.length + 1 → (w.cell? ⟨g, 0 + j, none⟩).isSome = true := fun j hj => by
        rw [Nat.zero_add]
        exact hr.cell_there j (by rw [List.length_append]; omega)
      have hrl : rest.length = cap - xs.length := by simp only [hlx] at hcap; omega
      have hput : ∀ w', rowAt w' g 3 (ints (xs.take i ++ x :: xs.drop i) ++ rest.tail) → w'.ownsRow B 3 1 (.slice (some ⟨g, 0, none⟩) (xs.length + 1) cap) (xs.length + 1) (ints (xs.take i ++ x :: xs.drop i)) := by
        intro w' h3
        have hl : (ints (xs.take i ++ x :: xs.drop i)).length = xs.length + 1 := by simp; omega
        exact owns_mk h3 hg (by rw [hl]; omega) (by rw [hl, List.length_tail]; omega) hroom hm
      by_cases hlt : i < xs.length
      · refine (Any2.slices_Insert_int_shift Try.laysNm221 g 0 xs.length cap i vb 0 1 1 (ints xs) [.int .i64 x] w hlt (by omega) hroom (by simp only [maxLen] at hm; omega) hgv.symm hlx rfl hcs hsp (fun j _ => hr.free _) hvs (oneCell_ints xs) h1v _ _ _ _ hvb.shape hr.shape (by rw [List.length_append]; omega) (hvb.free _) (hvb.free _)).mono ?_
        rintro e w' ⟨rfl, rfl⟩
        have ha : rowAt w.drew g 3 (ints xs ++ rest) := hr
        refine ⟨_, rfl, hput _ ?_, ?_, fun k hk => .inl (by cases hk; rfl)⟩
        · have hb := rowAt.setCells [.int .i64 x] (0 + i) _ _ (rowAt.setCells ((ints xs).drop i) (0 + (i + 1)) _ _ ha)
          rw [splice_eq _ _ _ (by rw [length_splice, List.length_append]; simp; omega), splice_eq _ _ _ (by rw [List.length_append]; simp; omega)] at hb
          simp only [Nat.zero_add] at hb
          have e1 : List.take i (List.take (i + 1) (ints xs ++ rest) ++ List.drop i (ints xs) ++ List.drop (i + 1 + (List.drop i (ints xs)).length) (ints xs ++ rest)) = ints (xs.take i) := by
            rw [List.append_assoc, List.take_append_of_le_length (by rw [List.length_take, List.length_append]; omega), List.take_take, List.take_append_of_le_length (by omega), Nat.min_eq_left (by omega)]
            exact (List.map_take ..).symm
          have e2 : List.drop (i + [Value.int .i64 x].length) (List.take (i + 1) (ints xs ++ rest) ++ List.drop i (ints xs) ++ List.drop (i + 1 + (List.drop i (ints xs)).length) (ints xs ++ rest)) = ints (xs.drop i) ++ rest.tail := by
            rw [List.append_assoc, List.drop_append_of_le_length (by rw [List.length_take, List.length_append]; simp; omega), List.drop_eq_nil_of_le (by rw [List.length_take]; simp; omega), List.nil_append]
            congr 1
            · exact (List.map_drop ..).symm
            · rw [List.length_drop, List.drop_append, List.drop_eq_nil_of_le (by omega), List.nil_append, ← List.drop_one]
              congr 1
              omega
          rw [e1, e2] at hb
          simpa using hb
        · exact ((Upon.drewN _ w 1).trans (Upon.setCells (S := fun k => (Value.slice (some ⟨g, 0, none⟩) xs.length cap).ownBlock = some k) rfl _ _ _) (fun _ _ h => h)).trans (Upon.setCells (S := fun k => (Value.slice (some ⟨g, 0, none⟩) xs.length cap).ownBlock = some k) rfl _ _ _) (fun _ _ h => h)
      · obtain rfl : i = xs.length := by omega
        refine (Any2.slices_Insert_int_end_room Try.laysNm221 g 0 xs.length cap vb 0 1 1 [.int .i64 x] w (by omega) hroom (by simp only [maxLen] at hm; omega) rfl (fun j hj => by
          rw [Nat.zero_add]
          exact hr.cell_there (xs.length + j) (by rw [List.length_append]; omega)) (fun j _ => hr.free _) hvs h1v).mono ?_
        rintro e w' ⟨rfl, rfl⟩
        refine ⟨_, rfl, hput _ ?_, Upon.setCells (S := fun k => (Value.slice (some ⟨g, 0, none⟩) xs.length cap).ownBlock = some k) rfl _ _ _, fun k hk => .inl (by cases hk; rfl)⟩
        have hb := rowAt.setCells [.int .i64 x] (0 + xs.length) _ _ hr
        rw [splice_eq _ _ _ (by rw [List.length_append]; simp; omega)] at hb
        simp only [Nat.zero_add] at hb
        rw [List.take_append_of_le_length (by omega), List.take_of_length_le (by omega), List.drop_append, List.drop_eq_nil_of_le (by simp), List.nil_append] at hb
        have e3 : List.drop (xs.length + [Value.int .i64 x].length - (ints xs).length) rest = rest.tail := by
          rw [← List.drop_one]; congr 1; simp
        rw [e3] at hb
        simpa using hb
    · have hce : cap = xs.length := by omega
      subst hce
      have hge := grownCap_ge w (xs.length + 1) xs.length 3
      have hle := grownCap_le_maxLen w (xs.length + 1) xs.length 3 (by simp only [maxLen]; omega)
      obtain rfl : rest = [] := List.length_eq_zero_iff.1 (by omega)
      by_cases hlt : i < xs.length
      · refine (Any2.slices_Insert_int_grow Try.laysNm221 g 0 xs.length xs.length i vb 0 1 1 (ints xs) [.int .i64 x] w hlt (by omega) (by omega) (by omega) (by omega) hlx rfl hcs hvs (oneCell_ints xs) h1v).mono ?_
        rintro e w' ⟨he, hw⟩
        rw [ren221] at he hw
        subst he hw
        refine ⟨_, rfl, hfresh _ _ (List.replicate (grownCap w (xs.length + 1) xs.length 3 - (xs.length + 1)) (.int .i64 0)) hge hle ?_ (by simp; omega), ?_, ?_⟩
        · have ha : rowAt ((w.alloc (.cells (((ints xs).take i).toArray ++ Builtin.zeroCells (Value.int .i64 0).cells (xs.length + 1 - i) ++ Builtin.zeroCells (Value.int .i64 0).cells (grownCap w (xs.length + 1) xs.length 3 - (xs.length + 1))) 3)).drew) w.heap.size 3 ((ints xs).take i ++ (List.replicate (xs.length + 1 - i) (.int .i64 0) ++ List.replicate (grownCap w (xs.length + 1) xs.length 3 - (xs.length + 1)) (.int .i64 0))) :=
            rowAt.made_arr w _ _ _ (by simp [zeroI])
          have hc := rowAt.setCells ((ints xs).drop i) (i + 1) _ _ (rowAt.setCells [.int .i64 x] i _ _ ha).drew
          rw [splice_eq _ _ _ (by rw [length_splice]; simp; omega), splice_eq _ _ _ (by simp; omega)] at hc
          have q1 : ((ints xs).take i).length = i := by rw [List.length_take]; omega
          have q2 : List.take i (List.take i (ints xs) ++ (List.replicate (xs.length + 1 - i) (Value.int .i64 0) ++ List.replicate (grownCap w (xs.length + 1) xs.length 3 - (xs.length + 1)) (Value.int .i64 0))) = ints (xs.take i) := by
            rw [List.take_append_of_le_length (by omega), List.take_of_length_le (by omega)]
            exact (List.map_take ..).symm
          rw [q2] at hc
          have q3 : (ints (xs.take i)).length = i := by simp; omega
          have q4 : List.take (i + 1) (ints (xs.take i) ++ [Value.int .i64 x] ++ List.drop (i + [Value.int .i64 x].length) (List.take i (ints xs) ++ (List.replicate (xs.length + 1 - i) (Value.int .i64 0) ++ List.replicate (grownCap w (xs.length + 1) xs.length 3 - (xs.length + 1)) (Value.int .i64 0)))) = ints (xs.take i) ++ [Value.int .i64 x] := by
            rw [List.take_append_of_le_length (by simp; omega), List.take_of_length_le (by simp; omega)]
          have q5 : List.drop (i + 1 + ((ints xs).drop i).length) (ints (xs.take i) ++ [Value.int .i64 x] ++ List.drop (i + [Value.int .i64 x].length) (List.take i (ints xs) ++ (List.replicate (xs.length + 1 - i) (Value.int .i64 0) ++ List.replicate (grownCap w (xs.length + 1) xs.length 3 - (xs.length + 1)) (Value.int .i64 0)))) = List.replicate (grownCap w (xs.length + 1) xs.length 3 - (xs.length + 1)) (Value.int .i64 0) := by
            rw [List.drop_append, List.drop_eq_nil_of_le (by simp; omega), List.nil_append, List.drop_drop, List.drop_append, List.drop_eq_nil_of_le (by simp; omega), List.nil_append, List.replicate_append_replicate, List.drop_replicate]
            congr 1
            simp
            omega
          rw [q4, q5] at hc
          have q6 : (ints xs).drop i = ints (xs.drop i) := (List.map_drop ..).symm
          rw [q6] at hc
          rw [q6]
          simpa using hc
        · refine Upon.of_below ?_
          exact (((((Below.refl w.heap.size w).alloc (Nat.le_refl _) _).drew).trans (Below.setCellsB (Nat.le_refl _) _ _ _)).drew).trans (Below.setCellsB (Nat.le_refl _) _ _ _)
        · intro k hk; cases hk; exact .inr (Nat.le_refl _)
      · obtain rfl : i = xs.length := by omega
        refine (Any2.slices_Insert_int_end_grow Try.laysNm221 (some ⟨g, 0, none⟩) xs.length xs.length vb 0 1 1 (ints xs) [.int .i64 x] w (by omega) (by omega) (by omega) (by omega) hlx rfl (by simp) (fun a ha j u hj => by cases ha; rw [Addr.add_lit]; exact hcs j u hj) hvs h1v).mono ?_
        rintro e w' ⟨he, hw⟩
        rw [ren221] at he hw
        subst he hw
        refine ⟨_, rfl, hfresh _ _ (List.replicate (grownCap w (xs.length + 1) xs.length 3 - (xs.length + 1)) (.int .i64 0)) hge hle ?_ (by simp only [List.length_nil, List.length_replicate]; omega), (Upon.drewN _ w 1).trans (Upon.alloc _ _ _) (fun _ _ h => h), ?_⟩
        · exact rowAt.made_arr w.drew _ _ _ (by simp [zeroI])
        · intro k hk; cases hk; exact .inr (Nat.le_refl _)

theorem info_word : (Try.prog.info? 39).map (fun i => (i.zero, i.size, i.bytes)) = some (some (.int .u64 0), 1, 8) := by kernel_rfl
theorem info_int : (Try.prog.info? 3).map (fun i => (i.zero, i.size, i.bytes)) = some (some (.int .i64 0), 1, 8) := by kernel_rfl
theorem under_words : Try.prog.underlying 30 = some (.slice 39) := by kernel_rfl

/-- A copy. -/
theorem clone_words {w : World} {b o n c : Nat} {xs : List Int} (hx : xs.length = n) (hn : n ≤ 1000000) (hc : ∀ j u, (words xs)[j]? = some u → w.cell? ⟨b, o + j, none⟩ = some u) :
    Calls Try.prog 52 #[.slice (some ⟨b, o, none⟩) n c] w fun e w' =>
      ∃ v', e = .returned v' ∧ w'.ownsRow w.heap.size 39 1 v' n (words xs) ∧ Below w.heap.size w w' := by
  obtain ⟨i0, hi, hz0, hz1, hz2⟩ := info_parts info_word
  have HC : Hid (∀ j u, (words xs)[j]? = some u → w.cell? ⟨b, o + j, none⟩ = some u) := hc
  clear hc
  have HX := Lib.hid hx
  clear hx
  have q : ∀ (w : World) (a : Option Addr) (n c n' c' : Nat), (binOp .eql 30 (.slice a n c) (.slice none n' c')).run Try.prog w = .ok (.bool a.isNone) w := fun w a n c n' c' => Lib.run_eql_slice_nil w _ _ a n c n' c' under_words
  go_enter Try.func52, Try.ntmps52
  go_wp2_with (at_builtin; refine wpList_append_own _ rfl _ _ 30 rfl w.heap.size 39 i0 (.int .u64 0) 1 8 under_words hi hz0 hz1 hz2 rfl (by decide) _ _ _ rfl (World.ownsRow_made w #[] 0 (Nat.le_refl _) (Nat.zero_le _) (by simp)) ⟨b, o, none⟩ n c (words xs) rfl ?qc1 ?qc2 ?qc3 ?qc4 ?qc5 ?qc6 ?_)
  case qc1 => simpa using HX.out
  case qc2 =>
    intro j u hj
    rw [Addr.add_lit]
    exact Lib.cell?_alloc_some _ (HC.out j u hj)
  case qc3 => exact oneCell_words xs
  case qc4 => simp only [maxLen]; omega
  case qc5 => omega
  case qc6 => simp
  intro v' w1 hown hgrow hnil
  go_wp2
  go_ret
  refine ⟨v', rfl, by simpa using hown, ?_⟩
  exact ((Below.refl _ w).alloc (Nat.le_refl _) _).grown hgrow (by simp) (by intro k hk; simp [Value.ownBlock] at hk; omega)

theorem clone_nil (w : World) (n c : Nat) :
    Calls Try.prog 52 #[.slice none n c] w fun e w' => e = .returned (.slice none 0 0) ∧ w = w' := by
  have q : ∀ (w : World) (a : Option Addr) (n c n' c' : Nat), (binOp .eql 30 (.slice a n c) (.slice none n' c')).run Try.prog w = .ok (.bool a.isNone) w := fun w a n c n' c' => Lib.run_eql_slice_nil w _ _ a n c n' c' under_words
  go_enter Try.func52, Try.ntmps52
  go_wp2
  go_ret
  exact ⟨rfl, rfl⟩

end Go.Proofs.Ytnjpjhlodamanaa
