/-
  The object that stands at a place of words, as the document reads it (stockpotref03.At), whatever the words are; the document's semispace (Semi); a word that may be a field (Is).
  Conditions: as each states.
-/
import Derived.Test.YtejbblhlbilpnaaZReE
import Derived.Test.YtejbblhlbilpnaaZTwo
import Derived.Test.YtejbblhlbilpnaaZKeepO
namespace Go.Proofs.Ytejbblhlbilpnaa
set_option linter.unusedSimpArgs false
open Go.ChangeShapes Go.WideShapes Go.ChangeAt Go.RowKit
set_option maxRecDepth 100000

theorem reAt_any {w : World} {a : Option Addr} {c : Nat} {ws : List Int} (hr : readsAt w (.slice a ws.length c) ws.length (wordsL ws)) (hnc : ws.length ≤ c) (hf : ∀ x ∈ ws, fitW x) (hn : ws.length ≤ 100000) (i : Int) :
    Calls Try.prog 46 #[.slice a ws.length c, .int .i64 i] w (ReadT (readP ws i) w) := by
  by_cases hout : i < 0 ∨ (ws.length : Int) ≤ i
  · have hq : readP ws i = none := by
      unfold readP
      split
      · rw [List.drop_eq_nil_of_le (by omega)]
        rfl
      · rfl
    rw [hq]
    exact (reAt_out a ws.length c i hout w).mono fun e w' ⟨he, hb⟩ => ⟨hb, .inr ⟨rfl, he⟩⟩
  · obtain ⟨j, rfl⟩ := Int.eq_ofNat_of_zero_le (a := i) (by omega)
    have hj : j < ws.length := by omega
    obtain ⟨a', c', e0, hr⟩ := hr
    cases e0
    rcases hr with h0 | ⟨b, o, rfl, hc⟩
    · omega
    obtain ⟨x, hx⟩ : ∃ x, x = ws[j] := ⟨_, rfl⟩
    have hxf : fitW x := by rw [hx]; exact hf _ (List.getElem_mem hj)
    have hdrop : ws.drop j = x :: ws.drop (j + 1) := by rw [hx]; exact List.drop_eq_getElem_cons hj
    have hrl : (ws.drop (j + 1)).length = ws.length - (j + 1) := List.length_drop
    have hcx : w.cell? ⟨b, o + j, none⟩ = some (.int .u64 x) := hc j _ (by rw [List.getElem?_map, List.getElem?_eq_getElem hj, hx]; rfl)
    have hread : ∀ (l : List Int), (∃ m, l = (ws.drop (j + 1)).take m) → ∀ q u, (wordsL (x :: l))[q]? = some u → w.cell? ⟨b, o + j + q, none⟩ = some u := by
      rintro l ⟨m, rfl⟩ q u hq
      have h1 : (wordsL (ws.drop j))[q]? = some u := by
        rw [hdrop]
        cases q with
        | zero => exact hq
        | succ q =>
          simp only [wordsL, List.map_cons, List.getElem?_cons_succ, List.getElem?_map, Option.map_eq_some_iff] at hq ⊢
          obtain ⟨y, hy, e⟩ := hq
          refine ⟨y, ?_, e⟩
          rw [List.getElem?_take] at hy
          split at hy
          · exact hy
          · cases hy
      have h2 := hc (j + q) u (by rw [← h1]; simp [wordsL, List.getElem?_drop])
      rw [Nat.add_assoc]
      exact h2
    have hq : readP ws (j : Int) = decode (x :: ws.drop (j + 1)) := by
      unfold readP
      rw [if_pos (by omega), Int.toNat_natCast, hdrop]
    have h3 : x / 4294967296 = ((hS x : Nat) : Int) := by unfold hS; have := hxf.1; omega
    have hfl : ∀ m, ∀ y ∈ (ws.drop (j + 1)).take m, fitW y := fun m y hy => hf y (List.mem_of_mem_drop (List.mem_of_mem_take hy))
    rw [hq]
    clear hq
    by_cases hk : hK x = 2
    · by_cases hbig : 400 < hS x ∨ ws.length < j + 1 + (hS x + 7) / 8
      · have hd : decode (x :: ws.drop (j + 1)) = none := by
          simp only [decode]
          rw [if_neg]
          intro h
          simp only [decodeOk, Bool.and_eq_true, decide_eq_true_eq] at h
          obtain ⟨⟨h1, h2⟩, _⟩ := h
          have hb := mayH_bounds h1
          rw [hk, hrl] at h2
          simp only [longH, if_true] at h2
          omega
        rw [hd]
        exact (reAt_big2 b o c ws.length j (hS x) 2 (hT x) x hxf hk rfl rfl h3 hj hn hbig w hcx).mono fun e w' ⟨he, hb⟩ => ⟨hb, .inr ⟨rfl, he⟩⟩
      · have hbl : ((ws.drop (j + 1)).take ((hS x + 7) / 8)).length = (hS x + 7) / 8 := by rw [List.length_take, hrl]; omega
        refine reAt_s b o c ws.length j (hS x) (hT x) x hxf hk rfl h3 hj hn (by omega) (by omega) ((ws.drop (j + 1)).take ((hS x + 7) / 8)) hbl (hfl _) w hcx (hread _ ⟨_, rfl⟩) _ ?_
        have hdo : decodeOk x (ws.drop (j + 1)) = (mayH 2 (hT x) (hS x) && soundH 2 ((ws.drop (j + 1)).take ((hS x + 7) / 8)) (hS x)) := by
          unfold decodeOk
          rw [hk]
          have hl : longH 2 (hS x) = (hS x + 7) / 8 := rfl
          rw [hl, decide_eq_true (show (hS x + 7) / 8 ≤ (ws.drop (j + 1)).length by rw [hrl]; omega), Bool.and_true]
        have hmo : mkOb (hK x) (hT x) ((ws.drop (j + 1)).take (longH (hK x) (hS x))) (hS x) = ⟨2, hT x, [], unpack ((ws.drop (j + 1)).take ((hS x + 7) / 8)) (hS x)⟩ := by
          rw [hk]
          rfl
        show (if decodeOk x (ws.drop (j + 1)) = true then some _ else none) = _
        rw [hmo]
        simp only [hdo]
    · by_cases hbig : 400 < hS x ∨ ws.length < j + 1 + hS x
      · have hd : decode (x :: ws.drop (j + 1)) = none := by
          simp only [decode]
          rw [if_neg]
          intro h
          simp only [decodeOk, Bool.and_eq_true, decide_eq_true_eq] at h
          obtain ⟨⟨h1, h2⟩, _⟩ := h
          have hb := mayH_bounds h1
          rw [hrl] at h2
          simp only [longH, hk, if_false] at h2
          omega
        rw [hd]
        exact (reAt_bigf b o c ws.length j (hS x) (hK x) (hT x) x hxf rfl hk rfl h3 hj hn hbig w hcx).mono fun e w' ⟨he, hb⟩ => ⟨hb, .inr ⟨rfl, he⟩⟩
      · have hbl : ((ws.drop (j + 1)).take (hS x)).length = hS x := by rw [List.length_take, hrl]; omega
        refine reAt_f b o c ws.length j (hS x) (hK x) (hT x) x hxf rfl hk rfl h3 hj hn hnc (by omega) (by omega) ((ws.drop (j + 1)).take (hS x)) hbl w hcx (hread _ ⟨_, rfl⟩) _ ?_
        have hdo : decodeOk x (ws.drop (j + 1)) = mayH (hK x) (hT x) (hS x) := by
          unfold decodeOk
          have hl : longH (hK x) (hS x) = hS x := by simp [longH, hk]
          have hso : soundH (hK x) ((ws.drop (j + 1)).take (hS x)) (hS x) = true := by simp [soundH, hk]
          rw [hl, decide_eq_true (show hS x ≤ (ws.drop (j + 1)).length by rw [hrl]; omega), Bool.and_true, hso, Bool.and_true]
        have hmo : mkOb (hK x) (hT x) ((ws.drop (j + 1)).take (longH (hK x) (hS x))) (hS x) = ⟨hK x, hT x, (ws.drop (j + 1)).take (hS x), []⟩ := by
          unfold mkOb
          rw [if_neg hk]
          have hl : longH (hK x) (hS x) = hS x := by simp [longH, hk]
          rw [hl]
        show (if decodeOk x (ws.drop (j + 1)) = true then some _ else none) = _
        rw [hmo]
        simp only [hdo]

/-- A word that is a number's, or one of the places. -/
def isP (L : List Int) (x : Int) : Bool := wIs x || decide (wRefAt x ∈ L)
end Go.Proofs.Ytejbblhlbilpnaa

/-
  Words that may be fields, as the document asks it (stockpotref03.Places.Is); the document's semispace (Semi).
  Conditions: as each states.
-/
namespace Go.Proofs.Ytejbblhlbilpnaa
set_option linter.unusedSimpArgs false
open Go.ChangeShapes Go.WideShapes Go.ChangeAt Go.RowKit
set_option maxRecDepth 100000

/-! ## Is -/
theorem is_yes (x : Int) (hx : fitW x) (h : wIs x = true) (a : Option Addr) (n c : Nat) (b : Bool) (w : World) :
    Calls Try.prog 45 #[.agg #[.slice a n c, .bool b], .int .u64 x] w fun e w' => e = .returned (.bool true) ∧ Below w.heap.size w w' := by
  have hI := refIs_any x hx.1 (by have := hx.2; omega)
  rw [h] at hI
  have HI := Lib.hid hI
  clear hI h hx
  go_enter Try.func45, Try.ntmps45
  go_wp2_with fail
  refine (HI.out _).mono ?_
  rintro e w1 ⟨rfl, rfl⟩
  go_wp2
  go_ret
  exact ⟨rfl, bl_alloc (Below.refl _ _) _⟩

theorem is_no (x : Int) (hx : fitW x) (h : wIs x = false) (a : Option Addr) (c : Nat) (L : List Int) (b : Bool) (w : World) (hr : readsAt w (.slice a L.length c) L.length (intsL L)) (hL : L.length ≤ 100000) :
    Calls Try.prog 45 #[.agg #[.slice a L.length c, .bool b], .int .u64 x] w fun e w' => e = .returned (.bool (decide (wRefAt x ∈ L))) ∧ Below w.heap.size w w' := by
  have hI := refIs_any x hx.1 (by have := hx.2; omega)
  rw [h] at hI
  have HI := Lib.hid hI
  have HA := Lib.hid (refAt_any x hx.1 (by have := hx.2; omega))
  generalize wRefAt x = Y at *
  have HR := Lib.hid hr
  clear hI h hx hr
  go_enter Try.func45, Try.ntmps45
  go_wp2_with fail
  refine (HI.out _).mono ?_
  rintro e w1 ⟨rfl, rfl⟩
  go_wp2_with fail
  refine (HA.out _).mono ?_
  rintro e w1 ⟨rfl, rfl⟩
  go_wp2
  go_loop [6] (fun i => ∃ k : Nat, k ≤ L.length ∧ i = .int .i64 (k : Int) ∧ Hid (Y ∉ L.take k)) (fun i => L.length - (intOf i).toNat)
  case atStart => exact ⟨0, Nat.zero_le _, rfl, by simp [Hid]⟩
  case round =>
    obtain ⟨k, hk, rfl, HN⟩ := hrel
    by_cases hlt : k < L.length
    · obtain ⟨_, _, e0, hrd⟩ := HR.out
      cases e0
      rcases hrd with h0 | ⟨bb, o, rfl, hcell⟩
      · omega
      have e1 : w.cell? ⟨bb, o + k, none⟩ = some (.int .i64 L[k]) := hcell k _ (by rw [List.getElem?_map, List.getElem?_eq_getElem hlt]; rfl)
      have hbl : bb < w.heap.size := World.block_lt_of_cell? w _ e1
      clear hcell
      by_cases he : L[k] = Y
      · have HD : Hid (decide (Y ∈ L) = true) := decide_eq_true (by rw [← he]; exact List.getElem_mem hlt)
        have d1 : (L[k] == Y) = true := by simpa using he
        clear he
        go_wp2
        go_ret
        exact ⟨ret_bool HD.out.symm, bl_alloc (Below.refl _ _) _⟩
      · have d1 : (L[k] == Y) = false := by simpa using he
        have HN2 : Hid (Y ∉ L.take (k + 1)) := by
          show Y ∉ _
          rw [List.take_succ_eq_append_getElem hlt, List.mem_append, List.mem_singleton]
          rintro (h | h)
          · exact HN.out h
          · exact he h.symm
        clear he
        go_wp2
        go_round
        case rel => exact ⟨k + 1, by omega, by go_num, HN2⟩
        case measure => simp [intOf]; omega
    · obtain rfl : k = L.length := by omega
      have HD : Hid (decide (Y ∈ L) = false) := decide_eq_false (by have := HN.out; rwa [List.take_of_length_le (Nat.le_refl _)] at this)
      go_wp2
      go_ret
      exact ⟨ret_bool HD.out.symm, bl_alloc (Below.refl _ _) _⟩

theorem is_anyP (x : Int) (hx : fitW x) (a : Option Addr) (c : Nat) (L : List Int) (b : Bool) (w : World) (hr : readsAt w (.slice a L.length c) L.length (intsL L)) (hL : L.length ≤ 100000) :
    Calls Try.prog 45 #[.agg #[.slice a L.length c, .bool b], .int .u64 x] w fun e w' => e = .returned (.bool (isP L x)) ∧ Below w.heap.size w w' := by
  unfold isP
  cases h : wIs x with
  | true => exact (is_yes x hx h a _ c b w).mono fun e w' ⟨he, hb⟩ => ⟨by rw [he]; rfl, hb⟩
  | false => exact (is_no x hx h a c L b w hr hL).mono fun e w' ⟨he, hb⟩ => ⟨by rw [he]; rfl, hb⟩

/-! ## The words of a region, as the document tells them: a part of the arena's row -/
theorem rwords_v {w : World} {p bw : Nat} {rv : Value} {A : Ar} (h : RefIn w p bw rv A) {b n : Nat} (hf : A.find (b : Int) = some n) :
    Calls Try.prog 47 #[.pointer (some ⟨p, 0, none⟩), .int .i64 (b : Int)] w fun e w' => e = .returned (.slice (some ⟨bw, b, none⟩) n (A.ws.length - b)) ∧ w' = w := by
  have c0 : w.cell? ⟨p, 0, none⟩ = some (.slice (some ⟨bw, 0, none⟩) A.ws.length A.ws.length) := (h.root.cell 0).trans rfl
  have hb := h.ok.bound hf
  have hm := h.ok.max
  have hs : A.size (b : Int) = n := by simp [Ar.size, hf]
  have hne : ¬ A.ws.length = b := by omega
  go_enter Try.func47, Try.ntmps47
  go_wp2_with (go_at_call 51; refine (refSize_any h b).mono ?_; rintro e w' ⟨rfl, rfl⟩)
  go_ret
  exact ⟨by show Ending.returned (Value.slice _ (b + n - b) _) = _; rw [Nat.add_sub_cancel_left], rfl⟩

theorem RefIn.drewN {w : World} {p bw : Nat} {rv : Value} {A : Ar} (h : RefIn w p bw rv A) (n : Nat) : RefIn (w.drewN n) p bw rv A := RefIn.upon h (Upon.drewN (fun _ => False) _ _) fun _ _ h => h
theorem size_of_lies {A : Ar} {base half space top : Int} (h : A.liesB base half space top = true) : A.size base = 2 * half := by
  have hn := lies_nums h
  have hf := lies_find h
  simp only [Ar.size, hf]
  omega

end Go.Proofs.Ytejbblhlbilpnaa

/-
  The document's semispace (stockpotref03.Semi).
  Conditions: as each states.
-/
namespace Go.Proofs.Ytejbblhlbilpnaa
set_option linter.unusedSimpArgs false
open Go.ChangeShapes Go.WideShapes Go.ChangeAt Go.RowKit
set_option maxRecDepth 100000

/-- A part of a row, T long, from lo on. -/
def SemiT (bw lo T : Nat) (w : World) (e : Ending) (w' : World) : Prop := (∃ o', e = .returned (.slice (some ⟨bw, o', none⟩) T T) ∧ (T = 0 ∨ o' = lo)) ∧ Below w.heap.size w w'

set_option maxHeartbeats 4000000 in
theorem semi_yes0 {w : World} {p bw : Nat} {rv : Value} {A : Ar} (h : RefIn w p bw rv A) (b hf T : Nat) (hl : A.liesB (b : Int) (hf : Int) 0 (T : Int) = true) :
    Calls Try.prog 50 #[.pointer (some ⟨p, 0, none⟩), heapV (b : Int) (hf : Int) 0 (T : Int)] w (SemiT bw b T w) := by
  have hn := lies_nums hl
  have hfd := lies_find hl
  have hbd := h.ok.bound hfd
  have hmx := h.ok.max
  obtain ⟨n1, n2, n3, n4, n5, n6, n7, n8, n9⟩ := hn
  have hsz := size_of_lies hl
  have HREF : Hid (∀ n, RefIn ((w.alloc (.cells #[.int .i64 (b : Int), .int .i64 (hf : Int), .int .i64 0, .int .i64 (T : Int)] 24)).drewN n) p bw rv A) := fun n => (RefIn.upon h (Upon.alloc (fun _ => False) _ _) fun _ _ h => h).drewN n
  have HSZ : Hid (∀ W, RefIn W p bw rv A → Calls Try.prog 51 #[.pointer (some ⟨p, 0, none⟩), .int .i64 (b : Int)] W fun e w' => e = .returned (.int .i64 (2 * (hf : Int))) ∧ w' = W) := fun W hW => (refSize_any hW (b : Int)).mono fun e w' ⟨he, hw⟩ => ⟨by rw [he, hsz], hw.symm⟩
  have hfd2 : A.find (b : Int) = some (2 * hf) := by rw [hfd]; congr 1
  have HWD : Hid (∀ W, RefIn W p bw rv A → Calls Try.prog 47 #[.pointer (some ⟨p, 0, none⟩), .int .i64 (b : Int)] W fun e w' => e = .returned (.slice (some ⟨bw, b, none⟩) (2 * hf) (A.ws.length - b)) ∧ w' = W) := fun W hW => rwords_v hW hfd2
  have m1 : T ≤ hf := by omega
  have m2 : b + 2 * hf ≤ A.ws.length := by omega
  have m3 : 8 ≤ hf := by omega
  have m4 : hf ≤ 2000 := by omega
  clear hl hfd hbd hsz hfd2 h n1 n2 n3 n4 n5 n6 n7 n8 n9
  generalize A.ws.length = N at *
  have d1 : decide ((hf : Int) < 8) = false := decide_eq_false (by omega)
  have d2 : decide (2000 < (hf : Int)) = false := decide_eq_false (by omega)
  have d3 : decide ((T : Int) < 0) = false := decide_eq_false (by omega)
  have d4 : decide (hf < T) = false := decide_eq_false (by omega)
  go_enter Try.func50, Try.ntmps50
  go_wp2
  go_quiet ((go_at_call 51; exact Calls.quiet_of_same (HSZ.out _ (HREF.out _))))
  rename_i nq
  go_wp2
  obtain ⟨W2, hW2⟩ : ∃ W2, W2 = (w.alloc (.cells #[.int .i64 (b : Int), .int .i64 (hf : Int), .int .i64 0, .int .i64 (T : Int)] 24)).drewN nq := ⟨_, rfl⟩
  rw [← hW2]
  have hrow : rowAt W2 w.heap.size 24 [.int .i64 (b : Int), .int .i64 (hf : Int), .int .i64 0, .int .i64 (T : Int)] := by rw [hW2]; exact rowAt.made w _ _
  have HRW : Hid (∀ n, RefIn (W2.drewN n) p bw rv A) := fun n => by rw [hW2]; exact (HREF.out nq).drewN n
  have HB : Hid (Below w.heap.size w W2) := by rw [hW2]; exact bl_drewN (bl_alloc (Below.refl _ _) _) _
  have c0 := hrow.cell 0
  have c1 := hrow.cell 1
  have c2 := hrow.cell 2
  have c3 := hrow.cell 3
  simp only [List.getElem?_cons_zero, List.getElem?_cons_succ] at c0 c1 c2 c3
  clear hrow hW2 HREF
  go_quiet ((go_at_call 47; exact Calls.quiet_of_same (HWD.out _ (HRW.out _))))
  go_wp2
  go_ret
  exact ⟨⟨_, rfl, .inr rfl⟩, bl_drewN HB.out _⟩
set_option maxHeartbeats 4000000 in
theorem semi_yes1 {w : World} {p bw : Nat} {rv : Value} {A : Ar} (h : RefIn w p bw rv A) (b hf T : Nat) (hl : A.liesB (b : Int) (hf : Int) 1 (T : Int) = true) :
    Calls Try.prog 50 #[.pointer (some ⟨p, 0, none⟩), heapV (b : Int) (hf : Int) 1 (T : Int)] w (SemiT bw (b + hf) T w) := by
  have hn := lies_nums hl
  have hfd := lies_find hl
  have hbd := h.ok.bound hfd
  have hmx := h.ok.max
  obtain ⟨n1, n2, n3, n4, n5, n6, n7, n8, n9⟩ := hn
  have hsz := size_of_lies hl
  have HREF : Hid (∀ n, RefIn ((w.alloc (.cells #[.int .i64 (b : Int), .int .i64 (hf : Int), .int .i64 1, .int .i64 (T : Int)] 24)).drewN n) p bw rv A) := fun n => (RefIn.upon h (Upon.alloc (fun _ => False) _ _) fun _ _ h => h).drewN n
  have HSZ : Hid (∀ W, RefIn W p bw rv A → Calls Try.prog 51 #[.pointer (some ⟨p, 0, none⟩), .int .i64 (b : Int)] W fun e w' => e = .returned (.int .i64 (2 * (hf : Int))) ∧ w' = W) := fun W hW => (refSize_any hW (b : Int)).mono fun e w' ⟨he, hw⟩ => ⟨by rw [he, hsz], hw.symm⟩
  have hfd2 : A.find (b : Int) = some (2 * hf) := by rw [hfd]; congr 1
  have HWD : Hid (∀ W, RefIn W p bw rv A → Calls Try.prog 47 #[.pointer (some ⟨p, 0, none⟩), .int .i64 (b : Int)] W fun e w' => e = .returned (.slice (some ⟨bw, b, none⟩) (2 * hf) (A.ws.length - b)) ∧ w' = W) := fun W hW => rwords_v hW hfd2
  have m1 : T ≤ hf := by omega
  have m2 : b + 2 * hf ≤ A.ws.length := by omega
  have m3 : 8 ≤ hf := by omega
  have m4 : hf ≤ 2000 := by omega
  clear hl hfd hbd hsz hfd2 h n1 n2 n3 n4 n5 n6 n7 n8 n9
  generalize A.ws.length = N at *
  have d1 : decide ((hf : Int) < 8) = false := decide_eq_false (by omega)
  have d2 : decide (2000 < (hf : Int)) = false := decide_eq_false (by omega)
  have d3 : decide ((T : Int) < 0) = false := decide_eq_false (by omega)
  have d4 : decide (hf < T) = false := decide_eq_false (by omega)
  go_enter Try.func50, Try.ntmps50
  go_wp2
  go_quiet ((go_at_call 51; exact Calls.quiet_of_same (HSZ.out _ (HREF.out _))))
  rename_i nq
  go_wp2
  obtain ⟨W2, hW2⟩ : ∃ W2, W2 = (w.alloc (.cells #[.int .i64 (b : Int), .int .i64 (hf : Int), .int .i64 1, .int .i64 (T : Int)] 24)).drewN nq := ⟨_, rfl⟩
  rw [← hW2]
  have hrow : rowAt W2 w.heap.size 24 [.int .i64 (b : Int), .int .i64 (hf : Int), .int .i64 1, .int .i64 (T : Int)] := by rw [hW2]; exact rowAt.made w _ _
  have HRW : Hid (∀ n, RefIn (W2.drewN n) p bw rv A) := fun n => by rw [hW2]; exact (HREF.out nq).drewN n
  have HB : Hid (Below w.heap.size w W2) := by rw [hW2]; exact bl_drewN (bl_alloc (Below.refl _ _) _) _
  have c0 := hrow.cell 0
  have c1 := hrow.cell 1
  have c2 := hrow.cell 2
  have c3 := hrow.cell 3
  simp only [List.getElem?_cons_zero, List.getElem?_cons_succ] at c0 c1 c2 c3
  clear hrow hW2 HREF
  go_quiet ((go_at_call 47; exact Calls.quiet_of_same (HWD.out _ (HRW.out _))))
  go_wp2
  all_goals
    go_ret
    first
      | exact ⟨⟨_, rfl, .inr rfl⟩, bl_drewN HB.out _⟩
      | (have hT : T = 0 := by omega
         exact ⟨⟨_, by rw [hT]; rfl, .inl hT⟩, bl_drewN HB.out _⟩)

theorem lies_of {A : Ar} {base half space top : Int} (h1 : numsB half space top = true) (h2 : A.size base = 2 * half) : A.liesB base half space top = true := by
  have hn := of_decide_eq_true h1
  unfold Ar.size at h2
  cases hf : A.find base with
  | none => rw [hf] at h2; simp only at h2; omega
  | some n =>
    rw [hf] at h2
    simp only at h2
    unfold Ar.liesB Ar.inB
    rw [h1, hf]
    simp only [Bool.true_and, Bool.and_eq_true, Bool.not_eq_true', decide_eq_true_eq, decide_eq_false_iff_not]
    omega

set_option maxHeartbeats 8000000 in
theorem semi_no {w : World} {p bw : Nat} {rv : Value} {A : Ar} (h : RefIn w p bw rv A) (base half space top : Int) (hl : A.liesB base half space top = false) :
    Calls Try.prog 50 #[.pointer (some ⟨p, 0, none⟩), heapV base half space top] w fun e w' => e = .returned (.slice none 0 0) ∧ Below w.heap.size w w' := by
  have HREF : Hid (∀ n, RefIn ((w.alloc (.cells #[.int .i64 base, .int .i64 half, .int .i64 space, .int .i64 top] 24)).drewN n) p bw rv A) := fun n => (RefIn.upon h (Upon.alloc (fun _ => False) _ _) fun _ _ h => h).drewN n
  have HSZ : Hid (∀ W, RefIn W p bw rv A → Calls Try.prog 51 #[.pointer (some ⟨p, 0, none⟩), .int .i64 base] W fun e w' => e = .returned (.int .i64 (A.size base)) ∧ w' = W) := fun W hW => (refSize_any hW base).mono fun e w' ⟨he, hw⟩ => ⟨he, hw.symm⟩
  have HL := Lib.hid hl
  clear hl h
  by_cases c1 : half < 8
  · have d1 : decide (half < 8) = true := decide_eq_true c1
    clear c1
    go_enter Try.func50, Try.ntmps50
    go_wp2
    go_quiet ((go_at_call 51; exact Calls.quiet_of_same (HSZ.out _ (HREF.out _))))
    go_wp2
    go_ret
    exact ⟨rfl, bl_drewN (bl_alloc (Below.refl _ _) _) _⟩
  have d1 : decide (half < 8) = false := decide_eq_false c1
  have e1 : 8 ≤ half := by omega
  clear c1
  by_cases c2 : 2000 < half
  · have d2 : decide (2000 < half) = true := decide_eq_true c2
    clear c2
    go_enter Try.func50, Try.ntmps50
    go_wp2
    go_quiet ((go_at_call 51; exact Calls.quiet_of_same (HSZ.out _ (HREF.out _))))
    go_wp2
    go_ret
    exact ⟨rfl, bl_drewN (bl_alloc (Below.refl _ _) _) _⟩
  have d2 : decide (2000 < half) = false := decide_eq_false c2
  have e2 : half ≤ 2000 := by omega
  clear c2
  obtain ⟨Z, hZ⟩ : ∃ Z, Z = A.size base := ⟨_, rfl⟩
  rw [← hZ] at HSZ
  have HZ := Lib.hid hZ
  clear hZ
  by_cases c3 : Z ≠ 2 * half
  · have d3 : (Z != 2 * half) = true := by simpa using c3
    clear c3
    go_enter Try.func50, Try.ntmps50
    go_wp2
    go_quiet ((go_at_call 51; exact Calls.quiet_of_same (HSZ.out _ (HREF.out _))))
    go_wp2
    go_ret
    exact ⟨rfl, bl_drewN (bl_alloc (Below.refl _ _) _) _⟩
  have d3 : (Z != 2 * half) = false := by simpa using c3
  have HC := Lib.hid (Classical.not_not.1 c3)
  clear c3
  by_cases c4 : space < 0
  · have d4 : decide (space < 0) = true := decide_eq_true c4
    clear c4
    go_enter Try.func50, Try.ntmps50
    go_wp2
    go_quiet ((go_at_call 51; exact Calls.quiet_of_same (HSZ.out _ (HREF.out _))))
    go_wp2
    go_ret
    exact ⟨rfl, bl_drewN (bl_alloc (Below.refl _ _) _) _⟩
  have d4 : decide (space < 0) = false := decide_eq_false c4
  have e4 : 0 ≤ space := by omega
  clear c4
  by_cases c5 : 1 < space
  · have d5 : decide (1 < space) = true := decide_eq_true c5
    clear c5
    go_enter Try.func50, Try.ntmps50
    go_wp2
    go_quiet ((go_at_call 51; exact Calls.quiet_of_same (HSZ.out _ (HREF.out _))))
    go_wp2
    go_ret
    exact ⟨rfl, bl_drewN (bl_alloc (Below.refl _ _) _) _⟩
  have d5 : decide (1 < space) = false := decide_eq_false c5
  have e5 : space ≤ 1 := by omega
  clear c5
  by_cases c6 : top < 0
  · have d6 : decide (top < 0) = true := decide_eq_true c6
    clear c6
    go_enter Try.func50, Try.ntmps50
    go_wp2
    go_quiet ((go_at_call 51; exact Calls.quiet_of_same (HSZ.out _ (HREF.out _))))
    go_wp2
    go_ret
    exact ⟨rfl, bl_drewN (bl_alloc (Below.refl _ _) _) _⟩
  have d6 : decide (top < 0) = false := decide_eq_false c6
  have e6 : 0 ≤ top := by omega
  clear c6
  by_cases c7 : half < top
  · have d7 : decide (half < top) = true := decide_eq_true c7
    clear c7
    go_enter Try.func50, Try.ntmps50
    go_wp2
    go_quiet ((go_at_call 51; exact Calls.quiet_of_same (HSZ.out _ (HREF.out _))))
    go_wp2
    go_ret
    exact ⟨rfl, bl_drewN (bl_alloc (Below.refl _ _) _) _⟩
  have d7 : decide (half < top) = false := decide_eq_false c7
  have e7 : top ≤ half := by omega
  clear c7
  exfalso
  have := lies_of (A := A) (base := base) (half := half) (space := space) (top := top) (by unfold numsB; exact decide_eq_true (by omega)) (by rw [← HZ.out]; exact HC.out)
  rw [HL.out] at this
  cases this
end Go.Proofs.Ytejbblhlbilpnaa
