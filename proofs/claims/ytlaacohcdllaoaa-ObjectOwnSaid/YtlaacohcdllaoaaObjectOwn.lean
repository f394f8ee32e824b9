/-
  Law ObjectOwn: an object that is told is nobody else's; what was handed in may be written, and nothing changes.
  Conditions: none.
-/
import Derived.Test.YtlaacohcdllaoaaOwnP
import Derived.Test.YtlaacohcdllaoaaArgs
import Derived.Deep.DeepCutAuto
import Derived.Deep.CutBlock
namespace Go.Proofs.Ytlaacohcdllaoaa.objectOwn
open Go.ChangeShapes Go.WideShapes Go.ChangeAt Go.RowKit
set_option linter.unusedVariables false
set_option linter.unusedSimpArgs false
set_option linter.unusedVariables false
set_option maxRecDepth 100000

theorem own : ownKnob Try.prog.godebug = none := by kernel_rfl
theorem laidOut : laidOutB Try.prog = true := by kernel_rfl

set_option maxRecDepth 100000 in
set_option maxHeartbeats 16000000 in
theorem walk_in (xs : List Int) (w : World) (a : Option Addr) (c : Nat) (hr : readsAt w (.slice a xs.length c) xs.length (wordsL xs)) (hx : ∀ x ∈ xs, fitW x) (h1 : 1 ≤ xs.length) (h8 : xs.length ≤ 8) (v : Int) :
    Calls Try.prog 7 #[.slice a xs.length c, .int .u64 v] w fun e w' => e = .returned (.bool true) ∧ Below w.heap.size w w' := by
  obtain ⟨a', c', e0, hr⟩ := hr
  cases e0
  rcases hr with h0 | ⟨b, o, rfl, hc⟩
  · omega
  have HC : Hid (∀ j u, (wordsL xs)[j]? = some u → w.cell? ⟨b, o + j, none⟩ = some u) := hc
  have hbl : b < w.heap.size := World.block_lt_of_cell? w ⟨b, o + 0, none⟩ (hc 0 (.int .u64 xs[0]) (by simp))
  have HX := Lib.hid hx
  clear hc hx
  obtain ⟨n, hnn⟩ : ∃ n, n = xs.length := ⟨_, rfl⟩
  have HN := Lib.hid hnn
  rw [← hnn] at h1 h8 ⊢
  clear hnn
  have hmk := make_sixty
  have hmn := make_words n (by omega)
  have d0 : ((n : Int) == 0) = false := by simp; omega
  have d1 : decide (8 < (n : Int)) = false := decide_eq_false (by omega)
  have d2 : n ≠ 0 := by omega
  go_enter Try.func7, Try.ntmps7
  go_wp2_with fail
  refine (lay_any _ _ sixty (readsAt.row (rest := []) (rowAt.made w _ _)) (fun x hx => by obtain rfl := List.eq_of_mem_replicate hx; exact ⟨by decide, by decide⟩) (by decide)).mono ?_
  rintro e w1 ⟨p, p2, F, G, rfl, g1, g2, g3, g4, g5, g6⟩
  have H1 := Lib.hid g1
  have H4 := Lib.hid g4
  have H6 := Lib.hid g6
  clear g1 g2 g3 g4 g5 g6 hmk
  go_wp2
  have hz1 : w.heap.size + 1 ≤ w1.heap.size := by have := H6.out.size; simpa using this
  obtain ⟨W0, hW0⟩ : ∃ W0, W0 = (w1.alloc (.cells #[.pointer (some ⟨p, 0, none⟩), .pointer (some ⟨p2, 0, none⟩)] 36)).alloc (.cells (Array.replicate n (.int .u64 0)) 29) := ⟨_, rfl⟩
  rw [← hW0]
  have K0 : Hid (Osl w p p2 F (Ar.bare 60) w1.heap.size W0 ∧ Ro F w1.heap.size w.heap.size (w1.heap.size + 1) 29 (List.replicate n (.int .u64 0)) W0) := by
    have hb : Below w1.heap.size w1 W0 := by rw [hW0]; exact bl_alloc (bl_alloc (Below.refl _ _) _) _
    have hlt := H1.out.lt
    refine ⟨⟨H1.out.below hb, ?_, fun h => ?_, fun k hk => ?_, by omega, ?_⟩, ?_, fun h => ?_, by omega, by omega⟩
    · rw [hW0]; exact (rowAt.made w1 _ _).alloc _
    · have := hlt _ h; omega
    · have := H4.out k hk
      simp at this
      omega
    · exact bl_call (bl_call (bl_alloc (Below.refl _ _) _) H6.out) hb
    · rw [hW0]
      have h5 := rowAt.made_arr (w1.alloc (.cells #[.pointer (some ⟨p, 0, none⟩), .pointer (some ⟨p2, 0, none⟩)] 36)) 29 (Array.replicate n (.int .u64 0)) (List.replicate n (.int .u64 0)) (by simp)
      simpa using h5
    · have := hlt _ h; omega
  clear hW0 H1 H4 H6 hmn
  go_loopw [9] (fun i wr => ∃ k : Nat, k ≤ n ∧ i = .int .i64 (k : Int) ∧ Hid (Osl w p p2 F (Ar.bare 60) w1.heap.size wr ∧ Ro F w1.heap.size w.heap.size (w1.heap.size + 1) 29 (wordsL ((xs.take k).map odd) ++ List.replicate (n - k) (.int .u64 0)) wr)) (fun i _ => n - (intOf i).toNat)
  case atStart => exact ⟨0, Nat.zero_le _, rfl, by simpa [Hid] using K0.out⟩
  case round =>
    clear K0
    obtain ⟨k, hk, rfl, KR⟩ := hrel
    by_cases hlt : k < n
    · have hlx : k < xs.length := by rw [← HN.out]; exact hlt
      have e1 : wr.cell? ⟨b, o + k, none⟩ = some (.int .u64 xs[k]) := (KR.out.1.below.cell (p := ⟨b, o + k, none⟩) hbl).trans (HC.out k _ (by simp [hlx]))
      have hrow := KR.out.2.1
      have hlen : (wordsL ((xs.take k).map odd)).length = k := by simp; omega
      have e2 : (wr.cell? ⟨w1.heap.size + 1, k, none⟩) = some (.int .u64 0) := by
        rw [hrow.cell, List.getElem?_append_right (by omega), hlen, Nat.sub_self, List.getElem?_replicate, if_pos (by omega)]
      have f2 := hrow.free k
      have hset : ∀ z : Int, rowAt (wr.setCell ⟨w1.heap.size + 1, k, none⟩ (.int .u64 z)) (w1.heap.size + 1) 29 (wordsL ((xs.take k).map odd) ++ .int .u64 z :: List.replicate (n - (k + 1)) (.int .u64 0)) := fun z => by
        have h := hrow.set k (.int .u64 z)
        rw [List.set_append_right _ _ (by omega), hlen, Nat.sub_self] at h
        have e : List.replicate (n - k) (Value.int .u64 0) = .int .u64 0 :: List.replicate (n - (k + 1)) (.int .u64 0) := by rw [← List.replicate_succ]; congr 1; omega
        rw [e, List.set_cons_zero] at h
        exact h
      have KN : Hid (Osl w p p2 F (Ar.bare 60) w1.heap.size (wr.setCell ⟨w1.heap.size + 1, k, none⟩ (.int .u64 (odd xs[k]))) ∧ Ro F w1.heap.size w.heap.size (w1.heap.size + 1) 29 (wordsL ((xs.take (k + 1)).map odd) ++ List.replicate (n - (k + 1)) (.int .u64 0)) (wr.setCell ⟨w1.heap.size + 1, k, none⟩ (.int .u64 (odd xs[k])))) := by
        refine ⟨KR.out.1.upon (Upon.setCell (S := fun q => q = w1.heap.size + 1) _ _ rfl) KR.out.2.2.2.2 KR.out.2.2.1 (by omega), ?_, KR.out.2.2.1, KR.out.2.2.2⟩
        rw [List.take_succ_eq_append_getElem hlx]
        simp only [List.map_append, List.map_cons, List.map_nil, List.append_assoc, List.cons_append, List.nil_append]
        exact hset _
      clear hset hrow hlen KR
      unfold odd at KN
      go_wp2
      go_roundw
      case rel => exact ⟨k + 1, by omega, by go_num, KN.out⟩
      case measure => simp [intOf]; omega
    · obtain rfl : k = n := by omega
      obtain ⟨ins, hins⟩ : ∃ ins, ins = xs.map odd := ⟨_, rfl⟩
      have hil : ins.length = k := by rw [hins, List.length_map]; exact HN.out.symm
      have hfit : ∀ x ∈ ins, fitW x := by
        intro x hx
        rw [hins] at hx
        obtain ⟨y, hy, rfl⟩ := List.mem_map.1 hx
        exact (odd_spec (HX.out y hy)).1
      have hodd : ∀ x ∈ ins, x % 2 = 1 := by
        intro x hx
        rw [hins] at hx
        obtain ⟨y, hy, rfl⟩ := List.mem_map.1 hx
        exact (odd_spec (HX.out y hy)).2
      have K1 : Hid (Osl w p p2 F (Ar.bare 60) w1.heap.size wr ∧ Ro F w1.heap.size w.heap.size (w1.heap.size + 1) 29 (wordsL ins) wr) := by
        refine ⟨KR.out.1, ?_⟩
        have h := KR.out.2
        rw [Nat.sub_self, List.take_of_length_le (by have := HN.out; omega), ← hins] at h
        simpa using h
      obtain ⟨hp1, hp2⟩ := own_facts ins (by omega) (by omega) hodd hfit K1.out.1.held.ok
      have HP1 := Lib.hid hp1
      have HFIT := Lib.hid hfit
      have HIL := Lib.hid hil
      obtain ⟨T, hT⟩ : ∃ T : Int, T = 0 + ((ownO ins).words : Int) := ⟨_, rfl⟩
      rw [← hT] at hp2
      obtain ⟨A1, hA1⟩ : ∃ A1 : Ar, A1 = (Ar.bare 60).puts 3 (0 * 30 + 0) (ownO ins).lay := ⟨_, rfl⟩
      rw [← hA1] at hp2
      have HOB := Lib.hid hp2
      have hPut : ∀ (W : World) (a : Option Addr) (c : Nat), Held W p F (Ar.bare 60) → ReadsOff W F a ins → Calls Try.prog 30 #[.pointer (some ⟨p, 0, none⟩), heapV 3 30 0 0, obj 1 0 a k c ⟨#[]⟩] W fun e w' => e = .returned (.tuple #[heapV 3 30 0 T, .int .u64 0, .bool true]) ∧ Held w' p F A1 ∧ Step F F W w' := by
        intro W a c hH hv
        have h := put_yes hH 3 30 0 0 1 0 a ins c ⟨#[]⟩ hv HFIT.out HP1.out
        rw [HIL.out] at h
        refine h.mono ?_
        rintro e w' ⟨he, h2, h3⟩
        refine ⟨?_, by rw [hA1]; exact h2, h3⟩
        rw [he, hT]
        rfl
      have HPUT := Lib.hid hPut
      have hGet : ∀ W : World, Held W p F A1 → Calls Try.prog 18 #[.pointer (some ⟨p, 0, none⟩), heapV 3 30 0 T, .int .u64 0] W fun e w' => ∃ g cap rest, e = .returned (.tuple #[obj 1 0 (some ⟨g, 0, none⟩) k cap ⟨#[]⟩, .bool true]) ∧ rowAt w' g 29 (wordsL ins ++ rest) ∧ W.heap.size ≤ g ∧ Below W.heap.size W w' := by
        intro W hH
        refine (get_any' hH 3 30 0 T 0 ⟨by decide, by decide⟩).mono ?_
        rintro e w' ⟨hb, hh⟩
        have hg := own_get HOB.out
        rcases hh with ⟨o, a, c, ho, he, how⟩ | ⟨ho, _⟩
        · rw [hg] at ho
          cases ho
          rcases owns_parts how with ⟨_, h0, _⟩ | ⟨g, cap, rest, hv, hg1, hr1, _⟩
          · have : ins.length = 0 := h0
            rw [HIL.out] at this
            omega
          · injection hv with e1 e2 e3
            subst e1 e3
            refine ⟨g, c, rest, ?_, hr1, hg1, hb⟩
            rw [he]
            show Ending.returned (.tuple #[obj 1 0 (some ⟨g, 0, none⟩) ins.length c ⟨#[]⟩, .bool true]) = _
            rw [HIL.out]
        · rw [hg] at ho; cases ho
      have HGET := Lib.hid hGet
      have hAll : ∀ W : World, Held W p F A1 → Calls Try.prog 20 #[.pointer (some ⟨p, 0, none⟩), heapV 3 30 0 T] W fun e w' => ∃ g cap rest, e = .returned (.tuple #[.slice (some ⟨g, 0, none⟩) 1 cap, .bool true]) ∧ rowAt w' g 3 (.int .i64 0 :: rest) ∧ W.heap.size ≤ g ∧ Below W.heap.size W w' := by
        intro W hH
        refine (all_any hH 3 30 0 T).mono ?_
        rintro e w' ⟨v, he, how, hb⟩
        rw [own_places HOB.out] at how
        rw [HOB.out] at he
        rcases owns_parts how with ⟨_, h0, _⟩ | ⟨g, cap, rest, rfl, hg1, hr1, _⟩
        · cases h0
        · exact ⟨g, cap, rest, he, hr1, hg1, hb⟩
      have HALL := Lib.hid hAll
      have hGood : ∀ W : World, Held W p F A1 → Calls Try.prog 28 #[.pointer (some ⟨p, 0, none⟩), heapV 3 30 0 T] W fun e w' => e = .returned (.bool true) ∧ Below W.heap.size W w' := by
        intro W hH
        refine (good_any hH 3 30 0 T).mono ?_
        rintro e w' ⟨he, hb⟩
        rw [HOB.out] at he
        exact ⟨he, hb⟩
      have HGOOD := Lib.hid hGood
      obtain ⟨i0, hi0, hz0, hz1', hz2⟩ := info_parts info_word
      clear hp1 hp2 hfit hodd hil hPut hGet hAll hGood hA1 hT hins KR hlt
      obtain ⟨wo, rfl⟩ : ∃ wo : World, wo = wr := ⟨_, rfl⟩
      have HOWN : Hid (∀ W : World, W.heap.size = wo.heap.size → (W.alloc (.cells #[] 29)).ownsRow wo.heap.size 29 1 (.slice (some ⟨wo.heap.size, 0, none⟩) 0 0) 0 []) := fun W hW => owns_mk (rest := []) (rowAt.made_at 29 [] hW.symm) (Nat.le_refl _) rfl rfl (Nat.le_refl _) (by decide)
      have d7 : decide (k < k) = false := decide_eq_false (by omega)
      go_wp2_with (at_builtin; refine wpList_append_any rfl _ _ 22 rfl wo.heap.size 29 i0 (.int .u64 0) 1 8 under_words hi0 hz0 hz1' hz2 rfl (by decide) _ 0 [] rfl (HOWN.out _ rfl) (some ⟨w1.heap.size + 1, 0, none⟩) k k (wordsL ins) rfl ?q1 ?q2 ?q3 ?q4 ?q5 ?q6 ?_)
      case q1 => rw [List.length_map, HIL.out, Nat.mul_one]
      case q2 =>
        refine .inr ⟨_, rfl, fun j u hj => ?_⟩
        rw [Addr.add_lit]
        refine Lib.cell?_alloc_some _ ?_
        rw [K1.out.2.1.cell, Nat.zero_add]
        exact hj
      case q3 => exact oneCell_words ins
      case q4 => simp only [maxLen]; omega
      case q5 => omega
      case q6 => simp
      intro v' w3 hown hgrow hblk
      have hb3 : Below wo.heap.size wo w3 := (bl_alloc (Below.refl _ _) _).grown hgrow (by simp) (by intro q hq; simp [Value.ownBlock] at hq; omega)
      replace hown : w3.ownsRow wo.heap.size 29 1 v' k (wordsL ins) := by simpa using hown
      rcases owns_parts hown with ⟨_, h0, _⟩ | ⟨g, cap, rest, rfl, hg1, hr1, _⟩
      · omega
      have K3 := Lib.hid (K1.out.1.on hb3)
      have I3 := Lib.hid (K1.out.2.1.below hb3 K1.out.2.1.lt)
      have G3 := Lib.hid hr1
      have hFlt := K1.out.1.held.lt
      have hzo : w.heap.size ≤ wo.heap.size := K1.out.1.below.size
      have HN3 : Hid (¬ F g ∧ w1.heap.size ≠ g ∧ w1.heap.size + 1 ≠ g ∧ w.heap.size ≤ g) := by
        have h1 := K1.out.1.two.lt
        have h2 := K1.out.2.1.lt
        exact ⟨fun h => by have := hFlt _ h; omega, by omega, by omega, by omega⟩
      have HNI : Hid (¬ F (w1.heap.size + 1)) := K1.out.2.2.1
      have c0 := K3.out.two.cell 0
      have l1 := K3.out.two.lt
      simp only [List.getElem?_cons_zero] at c0
      clear hown hgrow hblk hb3 hr1 K1 hFlt hg1 d7
      go_wp2_with fail
      refine (HPUT.out _ _ cap K3.out.held (readsOff_new G3.out HN3.out.1)).mono ?_
      rintro e w4 ⟨rfl, g4, s4⟩
      have K4 := Lib.hid (K3.out.step s4 g4)
      have I4 : Hid (rowAt w4 (w1.heap.size + 1) 29 (wordsL ins)) := I3.out.upon s4.upon HNI.out
      have G4 : Hid (rowAt w4 g 29 (wordsL ins ++ rest)) := G3.out.upon s4.upon HN3.out.1
      clear g4 s4 K3 I3 G3 c0 l1 HPUT
      go_wp2
      obtain ⟨W5, hW5⟩ : ∃ W5, W5 = w4.alloc (.cells #[.int .i64 3, .int .i64 30, .int .i64 0, .int .i64 T] 24) := ⟨_, rfl⟩
      rw [← hW5]
      have S5 : Hid (Stt w p p2 F A1 w1.heap.size w4.heap.size (w1.heap.size + 1) T ins W5 ∧ rowAt W5 g 29 (wordsL ins ++ rest) ∧ w4.heap.size ≠ g ∧ ¬ F w4.heap.size) := by
        rw [hW5]
        refine ⟨⟨K4.out.on (bl_alloc (Below.refl _ _) _), rowAt.made w4 _ _, I4.out.alloc _⟩, G4.out.alloc _, ?_, fun h => ?_⟩
        · have := G4.out.lt
          omega
        · have := K4.out.held.lt _ h
          omega
      clear hW5 K4 I4 G4
      go_loopw [14] (fun i wr => ∃ j ys, j ≤ k ∧ i = .int .i64 (j : Nat) ∧ Hid (ys.length = k ∧ rowAt wr g 29 (wordsL ys ++ rest) ∧ Stt w p p2 F A1 w1.heap.size w4.heap.size (w1.heap.size + 1) T ins wr)) (fun i _ => k - (intOf i).toNat)
      case atStart => exact ⟨0, ins, Nat.zero_le _, rfl, HIL.out, S5.out.2.1, S5.out.1⟩
      case round =>
        obtain ⟨j, ys, hj, rfl, HY⟩ := hrel
        by_cases hlt2 : j < k
        · have hjy : j < ys.length := by rw [HY.out.1]; exact hlt2
          have e1 := row_get HY.out.2.1 hjy
          have f1 := HY.out.2.1.free j
          have HNEW := Lib.hid (row_set HY.out.2.1 hjy v)
          have HST := Lib.hid (HY.out.2.2.upon (Upon.setCell (S := fun q => q = g) ⟨g, j, none⟩ (.int .u64 v) rfl) HN3.out.2.2.2 HN3.out.1 HN3.out.2.1 S5.out.2.2.1 HN3.out.2.2.1)
          go_wp2
          go_roundw
          case rel => exact ⟨j + 1, ys.set j v, by omega, by go_num, by rw [List.length_set]; exact HY.out.1, HNEW.out, HST.out⟩
          case measure => simp [intOf]; omega
        · obtain rfl : j = k := by omega
          have S6 := Lib.hid HY.out.2.2
          clear HY hlt2
          obtain ⟨wo2, rfl⟩ : ∃ wo2 : World, wo2 = wr := ⟨_, rfl⟩
          have c0 := S6.out.o.two.cell 0
          have l1 := S6.out.o.two.lt
          have h0 := S6.out.h.cell 0
          have h1' := S6.out.h.cell 1
          have h2' := S6.out.h.cell 2
          have h3' := S6.out.h.cell 3
          have lh := S6.out.h.lt
          simp only [List.getElem?_cons_zero, List.getElem?_cons_succ] at c0 h0 h1' h2' h3'
          go_wp2_with fail
          refine (HGET.out _ S6.out.o.held).mono ?_
          rintro e w7 ⟨g2, cap2, rest2, rfl, r7, hg7, b7⟩
          have S7 := Lib.hid (S6.out.on b7)
          have R7 := Lib.hid r7
          have HN7 : Hid (¬ F g2 ∧ w1.heap.size ≠ g2 ∧ w4.heap.size ≠ g2 ∧ w1.heap.size + 1 ≠ g2 ∧ w.heap.size ≤ g2 ∧ g2 < w7.heap.size) := by
            have q1 := S6.out.o.two.lt
            have q2 := S6.out.h.lt
            have q3 := S6.out.i.lt
            have q4 := S6.out.o.below.size
            refine ⟨fun h => ?_, by omega, by omega, by omega, by omega, r7.lt⟩
            have := S6.out.o.held.lt _ h
            omega
          clear b7 r7 hg7 S6 c0 l1 h0 h1' h2' h3' lh
          go_wp2
          obtain ⟨W8, hW8⟩ : ∃ W8, W8 = w7.alloc (.cells #[.int .i64 1, .int .i64 0, .slice (some ⟨g2, 0, none⟩) j cap2, .string ⟨#[]⟩] 28) := ⟨_, rfl⟩
          rw [← hW8]
          have S8 : Hid (Stt w p p2 F A1 w1.heap.size w4.heap.size (w1.heap.size + 1) T ins W8 ∧ rowAt W8 g2 29 (wordsL ins ++ rest2) ∧ rowAt W8 w7.heap.size 28 [.int .i64 1, .int .i64 0, .slice (some ⟨g2, 0, none⟩) j cap2, .string ⟨#[]⟩]) := by
            rw [hW8]
            exact ⟨S7.out.on (bl_alloc (Below.refl _ _) _), R7.out.alloc _, rowAt.made w7 _ _⟩
          clear hW8 S7 R7
          go_loopw [17] (fun i wr => ∃ m ys, m ≤ j ∧ i = .int .i64 (m : Nat) ∧ Hid (ys.length = j ∧ rowAt wr g2 29 (wordsL ys ++ rest2) ∧ Stt w p p2 F A1 w1.heap.size w4.heap.size (w1.heap.size + 1) T ins wr ∧ rowAt wr w7.heap.size 28 [.int .i64 1, .int .i64 0, .slice (some ⟨g2, 0, none⟩) j cap2, .string ⟨#[]⟩])) (fun i _ => j - (intOf i).toNat)
          case atStart => exact ⟨0, ins, Nat.zero_le _, rfl, HIL.out, S8.out.2.1, S8.out.1, S8.out.2.2⟩
          case round =>
            obtain ⟨m, ys, hm, rfl, HY⟩ := hrel
            have c2 := HY.out.2.2.2.cell 2
            simp only [List.getElem?_cons_zero, List.getElem?_cons_succ] at c2
            by_cases hlt3 : m < j
            · have hjy : m < ys.length := by rw [HY.out.1]; exact hlt3
              have e1 := row_get HY.out.2.1 hjy
              have f1 := HY.out.2.1.free m
              have HNEW := Lib.hid (row_set HY.out.2.1 hjy v)
              have HST := Lib.hid (HY.out.2.2.1.upon (Upon.setCell (S := fun q => q = g2) ⟨g2, m, none⟩ (.int .u64 v) rfl) HN7.out.2.2.2.2.1 HN7.out.1 HN7.out.2.1 HN7.out.2.2.1 HN7.out.2.2.2.1)
              have HOB2 : Hid (rowAt (wr.setCell ⟨g2, m, none⟩ (.int .u64 v)) w7.heap.size 28 [.int .i64 1, .int .i64 0, .slice (some ⟨g2, 0, none⟩) j cap2, .string ⟨#[]⟩]) := HY.out.2.2.2.other _ _ (by show w7.heap.size ≠ g2; have := HN7.out.2.2.2.2.2; omega)
              go_wp2
              go_roundw
              case rel => exact ⟨m + 1, ys.set m v, by omega, by go_num, by rw [List.length_set]; exact HY.out.1, HNEW.out, HST.out, HOB2.out⟩
              case measure => simp [intOf]; omega
            · obtain rfl : m = j := by omega
              have S9 := Lib.hid HY.out.2.2.1
              clear hlt3
              obtain ⟨wo3, rfl⟩ : ∃ wo3 : World, wo3 = wr := ⟨_, rfl⟩
              have c0 := S9.out.o.two.cell 0
              have l1 := S9.out.o.two.lt
              have h0 := S9.out.h.cell 0
              have h1' := S9.out.h.cell 1
              have h2' := S9.out.h.cell 2
              have h3' := S9.out.h.cell 3
              have lh := S9.out.h.lt
              simp only [List.getElem?_cons_zero, List.getElem?_cons_succ] at c0 h0 h1' h2' h3'
              clear HY
              go_wp2_with fail
              refine (HGET.out _ S9.out.o.held).mono ?_
              rintro e w10 ⟨g3, cap3, rest3, rfl, r10, hg10, b10⟩
              have S10 := Lib.hid (S9.out.on b10)
              have R10 := Lib.hid r10
              clear b10 r10 hg10 S9 c0 l1 h0 h1' h2' h3' lh c2
              have c0 := S10.out.o.two.cell 0
              have l1 := S10.out.o.two.lt
              have h0 := S10.out.h.cell 0
              have h1' := S10.out.h.cell 1
              have h2' := S10.out.h.cell 2
              have h3' := S10.out.h.cell 3
              have lh := S10.out.h.lt
              simp only [List.getElem?_cons_zero, List.getElem?_cons_succ] at c0 h0 h1' h2' h3'
              go_wp2_with fail
              refine (HALL.out _ (S10.out.on (bl_alloc (Below.refl _ _) _)).o.held).mono ?_
              rintro e w11 ⟨g4, cap4, rest4, rfl, r11, hg11, b11⟩
              have hb11 : Below w10.heap.size w10 w11 := bl_call (bl_alloc (Below.refl _ _) _) b11
              have S11 := Lib.hid (S10.out.on hb11)
              have R11 := Lib.hid (R10.out.below hb11 R10.out.lt)
              have O11 : Hid (rowAt w11 w10.heap.size 28 [.int .i64 1, .int .i64 0, .slice (some ⟨g3, 0, none⟩) m cap3, .string ⟨#[]⟩]) := (rowAt.made w10 _ _).below b11 (by simp)
              have HN11 : Hid (¬ F g4 ∧ w1.heap.size ≠ g4 ∧ w4.heap.size ≠ g4 ∧ w1.heap.size + 1 ≠ g4 ∧ w.heap.size ≤ g4 ∧ g3 ≠ g4 ∧ w10.heap.size ≠ g4) := by
                have q1 := S10.out.o.two.lt
                have q2 := S10.out.h.lt
                have q3 := S10.out.i.lt
                have q4 := S10.out.o.below.size
                have q5 := R10.out.lt
                simp at hg11
                refine ⟨fun h => ?_, by omega, by omega, by omega, by omega, by omega, by omega⟩
                have := S10.out.o.held.lt _ h
                omega
              have e11 := r11.cell 0
              have f11 := r11.free 0
              have l11 := r11.lt
              simp only [List.getElem?_cons_zero, List.getElem?_cons_succ] at e11
              clear b11 hb11 r11 hg11 S10 R10 c0 l1 h0 h1' h2' h3' lh
              go_wp2_with fail
              refine wp_loop_rounds 2 ?_
              rw [rounds_succ]
              go_wp2_with fail
              rw [rounds_succ]
              obtain ⟨W12, hW12⟩ : ∃ W12, W12 = w11.setCell ⟨g4, 0, none⟩ (.int .i64 9) := ⟨_, rfl⟩
              rw [← hW12]
              have hu12 : Upon (fun q => q = g4) w11 W12 := by rw [hW12]; exact Upon.setCell _ _ rfl
              have S12 := Lib.hid (S11.out.upon hu12 HN11.out.2.2.2.2.1 HN11.out.1 HN11.out.2.1 HN11.out.2.2.1 HN11.out.2.2.2.1)
              have R12 := Lib.hid (R11.out.upon hu12 HN11.out.2.2.2.2.2.1)
              have O12 := Lib.hid (O11.out.upon hu12 HN11.out.2.2.2.2.2.2)
              clear hW12 hu12 S11 R11 O11 e11 f11 l11
              have c0 := S12.out.o.two.cell 0
              have l1 := S12.out.o.two.lt
              have h0 := S12.out.h.cell 0
              have h1' := S12.out.h.cell 1
              have h2' := S12.out.h.cell 2
              have h3' := S12.out.h.cell 3
              have lh := S12.out.h.lt
              have o2 := O12.out.cell 2
              have lo := O12.out.lt
              simp only [List.getElem?_cons_zero, List.getElem?_cons_succ] at c0 h0 h1' h2' h3' o2
              go_wp2_with fail
              have hk1 : readsAt W12 (.slice (some ⟨g3, 0, none⟩) m cap3) ins.length (wordsL ins) := by rw [HIL.out]; exact readsAt.row R12.out
              have hk2 : readsAt W12 (.slice (some ⟨w1.heap.size + 1, 0, none⟩) m m) ins.length (wordsL ins) := by
                rw [HIL.out]
                exact readsAt.row (rest := []) (by rw [List.append_nil]; exact S12.out.i)
              refine (keepWords_h hk1 hk2 (by rw [HIL.out]; omega) (b := true) (decide_eq_true rfl)).mono ?_
              rintro e w13 ⟨rfl, b13⟩
              have S13 := Lib.hid (S12.out.on b13)
              clear b13 hk1 hk2 S12 R12 O12 c0 l1 h0 h1' h2' h3' lh o2 lo
              have c0 := S13.out.o.two.cell 0
              have l1 := S13.out.o.two.lt
              have h0 := S13.out.h.cell 0
              have h1' := S13.out.h.cell 1
              have h2' := S13.out.h.cell 2
              have h3' := S13.out.h.cell 3
              have lh := S13.out.h.lt
              simp only [List.getElem?_cons_zero, List.getElem?_cons_succ] at c0 h0 h1' h2' h3'
              go_wp2_with fail
              refine (HGOOD.out _ S13.out.o.held).mono ?_
              rintro e w14 ⟨rfl, b14⟩
              have HB14 := Lib.hid (S13.out.on b14).o.below
              clear b14 S13 c0 l1 h0 h1' h2' h3' lh
              go_wp2_with fail
              refine (wakes_any _).mono ?_
              rintro e w15 ⟨rfl, b15⟩
              have HB15 := Lib.hid b15
              clear b15
              go_wp2
              go_ret
              exact ⟨rfl, bl_call HB14.out HB15.out⟩

theorem walk (v0 : Value) (xs : List Int) (v : Int) (w : World) (hr : readsAt w v0 xs.length (xs.map (Value.int .u64))) (hx : ∀ x ∈ xs, (Lit.int .u64 x).wf = true) (hm : xs.length ≤ maxLen) (wv : (Lit.int .u64 v).wf = true) :
    Calls Try.prog 7 #[v0, .int .u64 v] w fun e w' => e = .returned (.bool true) ∧ Below w.heap.size w w' := by
  obtain ⟨a, c, rfl, ha⟩ := id hr
  by_cases hn : xs.length = 0 ∨ 8 < xs.length
  · exact walk_out _ xs w a c rfl hm hn v
  · exact walk_in xs w a c hr (fun x h => by have := bounds_u64 (hx x h); exact ⟨this.1, by omega⟩) (by omega) (by omega) v

theorem contract (H : Type) (enc : TypeId × Value → H) (W : World) (base : Nat) (args : Array Value) (ds gs : List (DataW H)) (before : List MemPlace)
    (hval0 : ∀ (j : Nat) t v, Try.f7.params[j]? = some t → args[j]? = some v → Value.okWide Try.prog W .any base t v)
    (hW : DataW.Whole enc Try.prog Try.f7.params.toList Rows.objectOwnSpec.vars false W args.toList ds gs before) :
    Calls Try.prog 7 args W fun e W' => ∃ v, e = .returned v ∧ Rows.objectOwnSpec.post enc Try.prog Try.f7 false true false false W args v W' := by
  have hW' := hW
  have hval := hval0
  obtain ⟨p, q, hA0, hV, rfl, hfz, hnd⟩ := hW
  have hA : DataW.TrodAll enc Try.prog W 0 (fun _ => true) true Try.f7.params.toList args.toList ds p := hA0
  rw [Try.params7] at hA hval
  obtain ⟨rfl, rfl⟩ := trodVars_none hV
  obtain ⟨v0, vs0, d0, ds0, p0, q0, hargs, rfl, rfl, h0, r0⟩ := trodAll_cons hA
  obtain ⟨v1, vs1, d1, ds1, p1, q1, rfl, rfl, rfl, h1, r1⟩ := trodAll_cons r0
  obtain ⟨rfl, rfl, rfl⟩ := trodAll_nil r1
  obtain rfl : args = #[v0, v1] := by cases args; simp_all
  obtain ⟨xs0, hr0, hx0, hm0⟩ := open_slice_int Try.underlying22 Try.underlying29 (by kernel_rfl) (hval 0 22 v0 rfl rfl) h0
  obtain ⟨a1, rfl, rfl, rfl, w1⟩ := open_int Try.underlying29 (hval 1 29 v1 rfl rfl) h1
  refine (walk v0 xs0 a1 W hr0 hx0 hm0 w1).mono fun e W' ⟨he, hb⟩ => ?_
  subst he
  exact ⟨_, rfl, law_post laidOut (by kernel_rfl) rfl (by kernel_rfl) Try.underlying4 hW' rfl rfl rfl hb⟩

set_option maxRecDepth 100000 in
theorem lifted (os : Os) (started : os.Started) (H : Type) (enc : TypeId × Value → H) :
    ReturnsInHanded {} Try.checked os 7 .any (Rows.objectOwnSpec.pre6 enc Try.prog Try.f7 Rows.objectOwnRow.domain false) (Rows.objectOwnSpec.post enc Try.prog Try.f7 false true false false) := by
  refine returnsInHanded_of_change (C := Try.checked) own started (by kernel_rfl) Try.func7
    (ChangeSpec.witness6 (enc := enc) (C := Try.checked) false ⟨#[], #[.slice none 0 0, .int .u64 0], []⟩ 8 (by kernel_rfl) (by kernel_rfl) (by kernel_rfl) (by kernel_rfl)) ?_
  intro W base args ds gs before hval hW _ _
  exact contract H enc W base args ds gs before hval hW

theorem over : Rows.objectOwnRow.holds Try.pinned (OpenSpec.ofChange Rows.objectOwnSpec) :=
  OpenClaim.holds_of_wide 7 Try.f7 rfl rfl rfl rfl rfl rfl rfl ⟨rfl, rfl, rfl, rfl, rfl⟩ rfl rfl rfl rfl rfl (by kernel_rfl) Try.func7 (by kernel_rfl)
    (of_decide_eq_true (by kernel_rfl)) (by unfold Func.isWrapper; first | (rw [if_pos (by decide +kernel)]; kernel_rfl) | (rw [if_neg (by decide +kernel)]; exact ⟨rfl, rfl⟩))
    (fun os started H enc _ => lifted os started H enc)

theorem proved : Rows.ObjectOwnSaid := over
#print axioms proved
end Go.Proofs.Ytlaacohcdllaoaa.objectOwn
