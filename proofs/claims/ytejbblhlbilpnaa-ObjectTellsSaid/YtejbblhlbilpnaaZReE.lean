/-
  The object that stands at a place of words, as the document reads it (stockpotref03.At).
  Conditions: as each states.
-/
import Derived.Test.YtejbblhlbilpnaaZReB
import Derived.Test.YtejbblhlbilpnaaZObP
namespace Go.Proofs.Ytejbblhlbilpnaa
set_option linter.unusedSimpArgs false
open Go.ChangeShapes Go.WideShapes Go.ChangeAt Go.RowKit
set_option maxRecDepth 100000

def readP (ws : List Int) (i : Int) : Option Ob := if 0 ≤ i then decode (ws.drop i.toNat) else none
abbrev readV (k t : Int) (a : Option Addr) (nf c : Nat) (s : ByteArray) (b : Bool) : Value := .agg #[.int .i64 k, .int .i64 t, .slice a nf c, .string s, .bool b]
abbrev zeroRead : Value := readV 0 0 none 0 0 ⟨#[]⟩ false
def ReadT (q : Option Ob) (w : World) (e : Ending) (w' : World) : Prop :=
  Below w.heap.size w w' ∧ ((∃ o a c s, q = some o ∧ s.data.toList = o.tx ∧ e = .returned (readV o.kind o.tag a o.fs.length c s true) ∧ w'.ownsRow w.heap.size 29 1 (.slice a o.fs.length c) o.fs.length (wordsL o.fs)) ∨
    (q = none ∧ e = .returned zeroRead))

theorem and_tag (x : Int) (h : fitW x) : bits .and .u64 (x / 256) 16777215 = hT x := by
  obtain ⟨m, rfl⟩ := Int.eq_ofNat_of_zero_le h.1
  have hm : m < 18446744073709551616 := by have := h.2; omega
  have e : ((m : Int) / 256) = ((m / 256 : Nat) : Int) := by omega
  have h1 := bits_and_u64_nat (m / 256) 16777215 (by omega) (by omega)
  rw [show (16777215 : Nat) = 2 ^ 24 - 1 from rfl, Nat.and_two_pow_sub_one_eq_mod] at h1
  rw [e]
  have h2 : bits BinOp.and IntKind.u64 ((m / 256 : Nat) : Int) 16777215 = ((m / 256 % 2 ^ 24 : Nat) : Int) := h1
  rw [h2]
  unfold hT
  omega

theorem reAt_out (a : Option Addr) (n c : Nat) (i : Int) (h : i < 0 ∨ (n : Int) ≤ i) (w : World) :
    Calls Try.prog 46 #[.slice a n c, .int .i64 i] w fun e w' => e = .returned zeroRead ∧ Below w.heap.size w w' := by
  by_cases h0 : i < 0
  · go_enter Try.func46, Try.ntmps46
    go_wp2
    refine bodyPost_ret (v := zeroRead) (by simp [results, Try.results46, go_sem]) rfl ⟨rfl, ?_⟩
    repeat (first | exact Below.refl _ _ | refine bl_alloc ?_ _ | refine bl_set ?_ (by simp) _)
  · have h1 : 0 ≤ i := by omega
    have h2 : (n : Int) ≤ i := by omega
    clear h h0
    go_enter Try.func46, Try.ntmps46
    go_wp2
    refine bodyPost_ret (v := zeroRead) (by simp [results, Try.results46, go_sem]) rfl ⟨rfl, ?_⟩
    repeat (first | exact Below.refl _ _ | refine bl_alloc ?_ _ | refine bl_set ?_ (by simp) _)

set_option maxHeartbeats 4000000 in
theorem reAt_big2 (b o c : Nat) (n i S : Nat) (k t X : Int) (hX : fitW X) (h1 : X % 256 = k) (hk : k = 2) (h2 : hT X = t) (h3 : X / 4294967296 = (S : Int)) (hi : i < n) (hn : n ≤ 100000) (hS : 400 < S ∨ n < i + 1 + (S + 7) / 8) (w : World) (hc : w.cell? ⟨b, o + i, none⟩ = some (.int .u64 X)) :
    Calls Try.prog 46 #[.slice (some ⟨b, o, none⟩) n c, .int .i64 (i : Int)] w fun e w' => e = .returned zeroRead ∧ Below w.heap.size w w' := by
  have hb : b < w.heap.size := World.block_lt_of_cell? w _ hc
  have ha := and_tag X hX
  rw [h2] at ha
  obtain ⟨hX0, hX1⟩ := hX
  have hS4 : S < 4294967296 := by omega
  have ht : 0 ≤ t ∧ t < 16777216 := by subst h2; unfold hT; omega
  have hk0 : 0 ≤ k ∧ k < 256 := by omega
  obtain ⟨ht0, ht1⟩ := ht
  obtain ⟨hk0, hk1⟩ := hk0
  clear h2
  subst hk
  by_cases hS5 : 400 < S
  · clear hS
    go_enter Try.func46, Try.ntmps46
    go_wp2
    refine bodyPost_ret (v := zeroRead) (by simp [results, Try.results46, go_sem]) rfl ⟨rfl, ?_⟩
    repeat (first | exact Below.refl _ _ | refine bl_alloc ?_ _ | refine bl_set ?_ (by simp) _)
  · have hS6 : S ≤ 400 := by omega
    have hS7 : (n : Int) - i - 1 < ((S : Int) + 7) / 8 := by omega
    clear hS hS5
    go_enter Try.func46, Try.ntmps46
    go_wp2
    refine bodyPost_ret (v := zeroRead) (by simp [results, Try.results46, go_sem]) rfl ⟨rfl, ?_⟩
    repeat (first | exact Below.refl _ _ | refine bl_alloc ?_ _ | refine bl_set ?_ (by simp) _)
set_option maxHeartbeats 4000000 in
theorem reAt_bigf (b o c : Nat) (n i S : Nat) (k t X : Int) (hX : fitW X) (h1 : X % 256 = k) (hk : k ≠ 2) (h2 : hT X = t) (h3 : X / 4294967296 = (S : Int)) (hi : i < n) (hn : n ≤ 100000) (hS : 400 < S ∨ n < i + 1 + S) (w : World) (hc : w.cell? ⟨b, o + i, none⟩ = some (.int .u64 X)) :
    Calls Try.prog 46 #[.slice (some ⟨b, o, none⟩) n c, .int .i64 (i : Int)] w fun e w' => e = .returned zeroRead ∧ Below w.heap.size w w' := by
  have hb : b < w.heap.size := World.block_lt_of_cell? w _ hc
  have ha := and_tag X hX
  rw [h2] at ha
  obtain ⟨hX0, hX1⟩ := hX
  have hS4 : S < 4294967296 := by omega
  have ht : 0 ≤ t ∧ t < 16777216 := by subst h2; unfold hT; omega
  have hk0 : 0 ≤ k ∧ k < 256 := by omega
  obtain ⟨ht0, ht1⟩ := ht
  obtain ⟨hk0, hk1⟩ := hk0
  clear h2
  have hkb : (k == 2) = false := by simpa using hk
  clear hk
  by_cases hS5 : 400 < S
  · clear hS
    go_enter Try.func46, Try.ntmps46
    go_wp2
    refine bodyPost_ret (v := zeroRead) (by simp [results, Try.results46, go_sem]) rfl ⟨rfl, ?_⟩
    repeat (first | exact Below.refl _ _ | refine bl_alloc ?_ _ | refine bl_set ?_ (by simp) _)
  · have hS6 : S ≤ 400 := by omega
    have hS7 : (n : Int) - i - 1 < (S : Int) := by omega
    clear hS hS5
    go_enter Try.func46, Try.ntmps46
    go_wp2
    refine bodyPost_ret (v := zeroRead) (by simp [results, Try.results46, go_sem]) rfl ⟨rfl, ?_⟩
    repeat (first | exact Below.refl _ _ | refine bl_alloc ?_ _ | refine bl_set ?_ (by simp) _)
end Go.Proofs.Ytejbblhlbilpnaa

/-
  The object that stands at a place of words, as the document reads it (stockpotref03.At): a fielded one.
  Conditions: as each states.
-/
namespace Go.Proofs.Ytejbblhlbilpnaa
set_option linter.unusedSimpArgs false
open Go.ChangeShapes Go.WideShapes Go.ChangeAt Go.RowKit
set_option maxRecDepth 100000

theorem owns_five {w : World} {B : Nat} {e : TypeId} {size : Nat} {v : Value} {n : Nat} {xs : List Value} (h : w.ownsRow B e size v n xs) (p : Nat) (hp : ∀ g, v.ownBlock = some g → g ≠ p) (a b c d u : Value) :
    (((((w.setCell ⟨p, 0, none⟩ a).setCell ⟨p, 1, none⟩ b).setCell ⟨p, 2, none⟩ c).setCell ⟨p, 3, none⟩ d).setCell ⟨p, 4, none⟩ u).ownsRow B e size v n xs :=
  owns_of_heap h fun g hg => by
    have hne := hp g hg
    rw [Below.heap_setCell _ _ _ _ hne, Below.heap_setCell _ _ _ _ hne, Below.heap_setCell _ _ _ _ hne, Below.heap_setCell _ _ _ _ hne, Below.heap_setCell _ _ _ _ hne]
set_option maxHeartbeats 16000000 in
theorem reAt_f (b o c : Nat) (n i S : Nat) (k t X : Int) (hX : fitW X) (h1 : X % 256 = k) (hk : k ≠ 2) (h2 : hT X = t) (h3 : X / 4294967296 = (S : Int)) (hi : i < n) (hn : n ≤ 100000) (hnc : n ≤ c) (hS : S ≤ 400) (hS2 : i + 1 + S ≤ n) (fs : List Int) (hfl : fs.length = S) (w : World) (hc : w.cell? ⟨b, o + i, none⟩ = some (.int .u64 X))
    (hr : ∀ j u, (wordsL (X :: fs))[j]? = some u → w.cell? ⟨b, o + i + j, none⟩ = some u) (q : Option Ob) (hq : q = if mayH k t S then some ⟨k, t, fs, []⟩ else none) :
    Calls Try.prog 46 #[.slice (some ⟨b, o, none⟩) n c, .int .i64 (i : Int)] w (ReadT q w) := by
  have hb : b < w.heap.size := World.block_lt_of_cell? w _ hc
  have ha := and_tag X hX
  rw [h2] at ha
  obtain ⟨hX0, hX1⟩ := hX
  have HX : Hid (X = headW k t S) := by show _ = _; unfold hT at h2; unfold headW; omega
  have hS4 : S < 4294967296 := by omega
  have ht : 0 ≤ t ∧ t < 16777216 := by subst h2; unfold hT; omega
  have hk0 : 0 ≤ k ∧ k < 256 := by omega
  obtain ⟨ht0, ht1⟩ := ht
  obtain ⟨hk0, hk1⟩ := hk0
  clear h2
  have hkb : (k == 2) = false := by simpa using hk
  have HK := Lib.hid hk
  have hS8 : (S : Int) ≤ (n : Int) - i - 1 := by omega
  have HR := Lib.hid hr
  have HFL := Lib.hid hfl
  have HQ := Lib.hid hq
  obtain ⟨i0, hi0, hz0, hz1, hz2⟩ := info_parts info_word
  have s1 : (i : Int) + 1 + (S : Int) ≤ (n : Int) := by omega
  have s2 : (i : Int) + 1 + (S : Int) ≤ (c : Int) := by omega
  have s3 : (i : Int) + 1 ≤ (i : Int) + 1 + (S : Int) := by omega
  have s4 : ((i : Int) + 1).toNat = i + 1 := by omega
  have s5 : ((i : Int) + 1 + (S : Int)).toNat = i + 1 + S := by omega
  have hS0 : S = 0 ∨ S ≠ 0 := by omega
  obtain ⟨Ad, hAd⟩ : ∃ Ad, Ad = (if c = i + 1 then some (⟨b, o, none⟩ : Addr) else some ⟨b, o + (i + 1), none⟩) := ⟨_, rfl⟩
  have HAD : Hid (S = 0 ∨ Ad = some ⟨b, o + (i + 1), none⟩) := by
    by_cases hci : c = i + 1
    · exact .inl (by omega)
    · rw [if_neg hci] at hAd
      exact .inr hAd
  have hAd2 := hAd.symm
  clear hAd hS0
  have d0 : decide ((i : Int) < 0) = false := decide_eq_false (by omega)
  have d4 : decide (400 < (S : Int)) = false := decide_eq_false (by omega)
  clear hk hr hfl hq hS2
  go_enter Try.func46, Try.ntmps46
  have d9 : decide (n ≤ i) = false := decide_eq_false (by omega)
  have OWN : ∀ W : World, W.heap.size = w.heap.size + 1 + 1 → (W.alloc (.cells #[] 29)).ownsRow w.heap.size 29 1 (.slice (some ⟨w.heap.size + 1 + 1, 0, none⟩) 0 0) 0 [] := fun W hW => owns_mk (rest := []) (rowAt.made_at 29 [] hW.symm) (by omega) rfl rfl (Nat.le_refl _) (by decide)
  have HOWN := Lib.hid OWN
  clear OWN
  go_wp2_with (at_builtin; refine wpList_append_any rfl _ _ 22 rfl w.heap.size 29 i0 (.int .u64 0) 1 8 under_words hi0 hz0 hz1 hz2 rfl (by decide) _ 0 [] rfl (HOWN.out _ (by simp)) Ad S (c - (i + 1)) (wordsL fs) rfl ?q1 ?q2 ?q3 ?q4 ?q5 ?q6 ?_)
  case q1 => rw [List.length_map, HFL.out, Nat.mul_one]
  case q2 =>
    rcases HAD.out with h0 | rfl
    · exact .inl h0
    · refine .inr ⟨_, rfl, fun j u hj => ?_⟩
      have h1 := HR.out (j + 1) u hj
      rw [Addr.add_lit]
      rw [show o + i + (j + 1) = o + (i + 1) + j by omega] at h1
      exact Lib.cell?_alloc_some _ (Lib.cell?_alloc_some _ (Lib.cell?_alloc_some _ h1))
  case q3 => exact oneCell_words fs
  case q4 => simp only [maxLen]; omega
  case q5 => omega
  case q6 => simp <;> omega
  intro v' w1 hown hgrow hblk
  replace hown : w1.ownsRow w.heap.size 29 1 v' S (wordsL fs) := by simpa using hown
  obtain ⟨a1, c1, rfl⟩ := owns_slice hown
  have hg1 := hgrow.block
  simp only [Value.ownBlock, Option.map_some] at hg1
  obtain ⟨W0, hW0⟩ : ∃ W0, W0 = ((w.alloc (.cells #[.int .i64 0, .int .i64 0, .slice none 0 0, .string ⟨#[]⟩, .bool false] 45)).alloc (.cells #[.int .i64 k, .int .i64 t, .slice none 0 0, .string ⟨#[]⟩] 28)).alloc (.cells #[] 29) := ⟨_, rfl⟩
  have R5 : Hid (rowAt w1 w.heap.size 45 [.int .i64 0, .int .i64 0, .slice none 0 0, .string ⟨#[]⟩, .bool false]) :=
    (((rowAt.made w _ _).alloc _).alloc _).of_heap (hg1 _ (by simp <;> omega) (by simp <;> omega))
  have r6 : rowAt w1 (w.heap.size + 1) 28 [.int .i64 k, .int .i64 t, .slice none 0 0, .string ⟨#[]⟩] :=
    ((rowAt.made_at _ _ (by simp)).alloc _).of_heap (hg1 _ (by simp <;> omega) (by simp <;> omega))
  have HB1 : Hid (Below w.heap.size w w1) := (bl_alloc (bl_alloc (bl_alloc (Below.refl _ _) _) _) _).grown hgrow (by simp; omega) (by intro q hq; simp [Value.ownBlock] at hq; omega)
  have HO1 := Lib.hid hown
  have hg6 : ∀ g, (Value.slice a1 S c1).ownBlock = some g → g ≠ w.heap.size + 1 := by
    intro g hg
    rcases hblk with h1 | h1
    · rw [h1] at hg; simp [Value.ownBlock] at hg; omega
    · rw [h1] at hg; simp at hg; omega
  have HG6 := Lib.hid hg6
  have HG5 : Hid (∀ g, (Value.slice a1 S c1).ownBlock = some g → g ≠ w.heap.size) := by
    intro g hg
    rcases hblk with h1 | h1
    · rw [h1] at hg; simp [Value.ownBlock] at hg; omega
    · rw [h1] at hg; simp at hg; omega
  have hz1 := r6.lt
  have R6 := Lib.hid r6
  have c0 := r6.cell 0
  have c1' := r6.cell 1
  have c2 := r6.cell 2
  have c3 := r6.cell 3
  have f2 := r6.free 2
  simp only [List.getElem?_cons_zero, List.getElem?_cons_succ] at c0 c1' c2 c3
  clear hown hgrow hblk hg1 hW0 W0 r6 hg6 d0 d4 d9 ha h1 h3 hAd2
  go_wp2_with fail
  obtain ⟨W, hW⟩ : ∃ W, W = w1.setCell ⟨w.heap.size + 1, 2, none⟩ (.slice a1 S c1) := ⟨_, rfl⟩
  rw [← hW]
  have r6W : rowAt W (w.heap.size + 1) 28 [.int .i64 k, .int .i64 t, .slice a1 S c1, .string ⟨#[]⟩] := by rw [hW]; exact R6.out.set 2 _
  have ne56 : w.heap.size ≠ w.heap.size + 1 := by omega
  have R5W : Hid (rowAt W w.heap.size 45 [.int .i64 0, .int .i64 0, .slice none 0 0, .string ⟨#[]⟩, .bool false]) := by rw [hW]; exact R5.out.other _ _ ne56
  have HOW : Hid (W.ownsRow w.heap.size 29 1 (.slice a1 S c1) S (wordsL fs)) := by
    rw [hW]
    exact owns_of_heap HO1.out fun g hg => Below.heap_setCell _ _ _ _ (HG6.out g hg)
  have HBW : Hid (Below w.heap.size w W) := by rw [hW]; exact bl_set HB1.out (by simp) _
  have HGL : Hid (∀ g, (Value.slice a1 S c1).ownBlock = some g → g < W.heap.size) := fun g hg => (HOW.out.lt g hg).2
  have hzW := r6W.lt
  have R6W := Lib.hid r6W
  clear hW R6 R5 HO1 HB1 c0 c1' c2 c3 f2 hz1 r6W
  obtain ⟨m, hm⟩ : ∃ m, m = headR k t S (ByteArray.size ⟨#[]⟩) := ⟨_, rfl⟩
  have hm2 : m = mayH k t S := by
    rw [hm]
    have hk := HK.out
    have e0 : ByteArray.size ⟨#[]⟩ = 0 := rfl
    rw [e0]
    unfold headR hasH sizeH
    simp [hk]
  have HM2 := Lib.hid hm2
  have hMay := refMay_any k t a1 S c1 ⟨#[]⟩ W
  rw [← hm] at hMay
  refine hMay.mono ?_
  rintro e w2 ⟨rfl, b2⟩
  clear hMay hm2
  have HHR : Hid (headR k t S (ByteArray.size ⟨#[]⟩) = m) := hm.symm
  clear hm
  have R5b := Lib.hid (R5W.out.below b2 R5W.out.lt)
  have R6b := Lib.hid (R6W.out.below b2 R6W.out.lt)
  have HB2 := Lib.hid (bl_call HBW.out b2)
  have HO2 : Hid (w2.ownsRow w.heap.size 29 1 (.slice a1 S c1) S (wordsL fs)) := owns_below HOW.out b2 HGL.out
  have HGL2 : Hid (∀ g, (Value.slice a1 S c1).ownBlock = some g → g < w2.heap.size) := fun g hg => (HO2.out.lt g hg).2
  clear R5W R6W HBW HOW HGL b2
  have hz2 := R6b.out.lt
  have c0 := R6b.out.cell 0
  have c1' := R6b.out.cell 1
  have c2 := R6b.out.cell 2
  have c3 := R6b.out.cell 3
  have q0 := R5b.out.free 0
  have q1 := R5b.out.free 1
  have q2 := R5b.out.free 2
  have q3 := R5b.out.free 3
  have q4 := R5b.out.free 4
  have p0 := R5b.out.cell 0
  have p1 := R5b.out.cell 1
  have p2 := R5b.out.cell 2
  have p3 := R5b.out.cell 3
  have p4 := R5b.out.cell 4
  simp only [List.getElem?_cons_zero, List.getElem?_cons_succ] at c0 c1' c2 c3 p0 p1 p2 p3 p4
  cases m with
  | false =>
    have hz5 : w.heap.size < w2.heap.size := by omega
    go_wp2
    refine bodyPost_ret (v := zeroRead) (by simp [results, Try.results46, go_sem, hz5, p0, p1, p2, p3, p4]) rfl ⟨?_, .inr ⟨?_, rfl⟩⟩
    · repeat (first | exact HB2.out | refine bl_set ?_ (by simp) _)
    · rw [HQ.out, ← HM2.out]
      rfl
  | true =>
    go_wp2_with fail
    have hLay : ∀ W : World, readsAt W (.slice a1 S c1) S (wordsL fs) → Calls Try.prog 55 #[obj k t a1 S c1 ⟨#[]⟩] W fun e w' => ∃ v, e = .returned v ∧ w'.ownsRow W.heap.size 29 1 v (1 + S) (wordsL (X :: fs)) ∧ Below W.heap.size W w' := by
      intro W hW
      have hs := HFL.out
      have hx := HX.out
      have hh := HHR.out
      subst hs
      rw [hx]
      exact reLay_f k t a1 fs c1 ⟨#[]⟩ hh HK.out W hW
    have hrd : readsAt w2 (.slice a1 S c1) S (wordsL fs) := readsAt.of_owns HO2.out
    refine (hLay _ hrd).mono ?_
    clear hLay hrd
    rintro e w3 ⟨v3, rfl, ho3, b3⟩
    obtain ⟨a3, c3', rfl⟩ := owns_slice ho3
    have R5c := Lib.hid (R5b.out.below b3 R5b.out.lt)
    have R6c := Lib.hid (R6b.out.below b3 R6b.out.lt)
    have HB3 := Lib.hid (bl_call HB2.out b3)
    have HO3 : Hid (w3.ownsRow w.heap.size 29 1 (.slice a1 S c1) S (wordsL fs)) := owns_below HO2.out b3 HGL2.out
    have HL3 := Lib.hid (readsAt.of_owns ho3)
    clear ho3 b3 R5b R6b HB2 HO2 HGL2 c0 c1' c2 c3 p0 p1 p2 p3 p4 q0 q1 q2 q3 q4 hz2
    go_wp2
    go_loopw [12] (fun j wr => ∃ g m : Nat, g ≤ 1 + S ∧ j = .int .i64 (g : Int) ∧ wr = w3.drewN m) (fun j _ => 1 + S - (intOf j).toNat)
    case atStart => exact ⟨0, 0, Nat.zero_le _, rfl, rfl⟩
    case round =>
      obtain ⟨g, m, hg, rfl, rfl⟩ := hrel
      by_cases hlt : g < 1 + S
      · have hlw : g < (X :: fs).length := by rw [List.length_cons, HFL.out]; omega
        have e1 : w3.cell? ⟨b, o + (i + g), none⟩ = some (.int .u64 (X :: fs)[g]) := by
          have h1 := HR.out g (.int .u64 (X :: fs)[g]) (by rw [List.getElem?_map, List.getElem?_eq_getElem hlw]; rfl)
          rw [show o + (i + g) = o + i + g by omega]
          exact (HB3.out.cell (p := ⟨b, o + i + g, none⟩) hb).trans h1
        obtain ⟨_, _, e0, hrd⟩ := HL3.out
        cases e0
        rcases hrd with h0 | ⟨b3, o3, rfl, hcell⟩
        · omega
        have e2 : w3.cell? ⟨b3, o3 + g, none⟩ = some (.int .u64 (X :: fs)[g]) := hcell g (.int .u64 (X :: fs)[g]) (by rw [List.getElem?_map, List.getElem?_eq_getElem hlw]; rfl)
        have t1 : ((i : Int) + (g : Int)).toNat = i + g := by omega
        generalize (X :: fs)[g] = Y at e1 e2
        clear hcell hlw
        have hYY : (Y != Y) = false := by simp
        go_wp2
        go_quiet (fail)
        go_wp2
        go_roundw
        case rel => exact ⟨g + 1, _, by omega, by go_num, rfl⟩
        case measure => simp [intOf]; omega
      · obtain rfl : g = 1 + S := by omega
        have hz3 := R6c.out.lt
        have hz5 : w.heap.size < w3.heap.size := by omega
        have c0 := R6c.out.cell 0
        have c1' := R6c.out.cell 1
        have c2 := R6c.out.cell 2
        have c3 := R6c.out.cell 3
        have q0 := R5c.out.free 0
        have q1 := R5c.out.free 1
        have q2 := R5c.out.free 2
        have q3 := R5c.out.free 3
        have q4 := R5c.out.free 4
        have p0 := R5c.out.cell 0
        have p1 := R5c.out.cell 1
        have p2 := R5c.out.cell 2
        have p3 := R5c.out.cell 3
        have p4 := R5c.out.cell 4
        simp only [List.getElem?_cons_zero, List.getElem?_cons_succ] at c0 c1' c2 c3 p0 p1 p2 p3 p4
        clear hlt
        have HQ2 : Hid (q = some ⟨k, t, fs, []⟩) := by
          show q = _
          rw [HQ.out, ← HM2.out]
          rfl
        go_wp2
        refine bodyPost_ret (v := readV k t a1 S c1 ⟨#[]⟩ true) (by simp [results, Try.results46, go_sem, hz5, p0, p1, p2, p3, p4]) rfl ⟨?_, .inl ⟨⟨k, t, fs, []⟩, a1, c1, ⟨#[]⟩, HQ2.out, rfl, ?_, ?_⟩⟩
        · repeat (first | exact bl_drewN HB3.out _ | refine bl_set ?_ (by simp) _)
        · show Ending.returned (readV k t a1 S c1 ⟨#[]⟩ true) = Ending.returned (readV k t a1 fs.length c1 ⟨#[]⟩ true)
          rw [HFL.out]
        · show World.ownsRow _ w.heap.size 29 1 (.slice a1 fs.length c1) fs.length (wordsL fs)
          rw [HFL.out]
          exact owns_five (w := w3.drewN m) HO3.out _ HG5.out _ _ _ _ _
end Go.Proofs.Ytejbblhlbilpnaa

/-
  The object that stands at a place of words, as the document reads it (stockpotref03.At): a text; any.
  Conditions: as each states.
-/
namespace Go.Proofs.Ytejbblhlbilpnaa
set_option linter.unusedSimpArgs false
open Go.ChangeShapes Go.WideShapes Go.ChangeAt Go.RowKit
set_option maxRecDepth 100000

theorem take_same {α : Type} {a b : List α} {g : Nat} (h : a.take g = b.take g) (ha : g < a.length) (hb : g < b.length) (he : a[g] = b[g]) : a.take (g + 1) = b.take (g + 1) := by
  rw [List.take_succ_eq_append_getElem ha, List.take_succ_eq_append_getElem hb, h, he]

set_option maxHeartbeats 16000000 in
theorem reAt_s (b o c : Nat) (n i S : Nat) (t X : Int) (hX : fitW X) (h1 : X % 256 = 2) (h2 : hT X = t) (h3 : X / 4294967296 = (S : Int)) (hi : i < n) (hn : n ≤ 100000) (hS : S ≤ 400) (hS2 : i + 1 + (S + 7) / 8 ≤ n) (bs : List Int) (hfl : bs.length = (S + 7) / 8) (hbf : ∀ x ∈ bs, fitW x) (w : World) (hc : w.cell? ⟨b, o + i, none⟩ = some (.int .u64 X))
    (hr : ∀ j u, (wordsL (X :: bs))[j]? = some u → w.cell? ⟨b, o + i + j, none⟩ = some u) (q : Option Ob) (hq : q = if mayH 2 t S && soundH 2 bs S then some ⟨2, t, [], unpack bs S⟩ else none) :
    Calls Try.prog 46 #[.slice (some ⟨b, o, none⟩) n c, .int .i64 (i : Int)] w (ReadT q w) := by
  have hb : b < w.heap.size := World.block_lt_of_cell? w _ hc
  have ha := and_tag X hX
  rw [h2] at ha
  obtain ⟨hX0, hX1⟩ := hX
  have HX : Hid (X = headW 2 t S) := by show _ = _; unfold hT at h2; unfold headW; omega
  have hS4 : S < 4294967296 := by omega
  have ht : 0 ≤ t ∧ t < 16777216 := by subst h2; unfold hT; omega
  obtain ⟨ht0, ht1⟩ := ht
  clear h2
  have hS8 : ((S : Int) + 7) / 8 ≤ (n : Int) - i - 1 := by omega
  have hS9 : S ≤ bs.length * 8 := by omega
  have HR := Lib.hid hr
  have HFL := Lib.hid hfl
  have HBF := Lib.hid hbf
  have HQ := Lib.hid hq
  have hmk := make_bytes S (by omega)
  have d0 : decide ((i : Int) < 0) = false := decide_eq_false (by omega)
  have d4 : decide (400 < (S : Int)) = false := decide_eq_false (by omega)
  have d9 : decide (n ≤ i) = false := decide_eq_false (by omega)
  obtain ⟨s, hs⟩ : ∃ s : ByteArray, s = ⟨(unpack bs S).toArray⟩ := ⟨_, rfl⟩
  have hsd : s.data.toList = unpack bs S := by rw [hs]
  have hss : s.size = S := by rw [Lib.size_eq, hsd, length_unpack]
  have HSD := Lib.hid hsd
  have HSS := Lib.hid hss
  have HSE := Lib.hid hs
  clear hr hfl hbf hq hS2 hsd hss hs
  go_enter Try.func46, Try.ntmps46
  go_wp2
  go_loopw [10] (fun v wr => ∃ k : Nat, k ≤ S ∧ v = .int .i64 (k : Int) ∧ Hid (rowAt wr (w.heap.size + 1 + 1) 5 ((byteN bs S k).map fun x => Value.int .u8 (x.toNat : Int)) ∧ Below w.heap.size w wr ∧
      rowAt wr w.heap.size 45 [.int .i64 0, .int .i64 0, .slice none 0 0, .string ⟨#[]⟩, .bool false] ∧ rowAt wr (w.heap.size + 1) 28 [.int .i64 2, .int .i64 t, .slice none 0 0, .string ⟨#[]⟩])) (fun v _ => S - (intOf v).toNat)
  case atStart =>
    refine ⟨0, Nat.zero_le _, rfl, ?_, ?_, ?_, ?_⟩
    · have := rowAt.made_at (w := (w.alloc (.cells #[.int .i64 0, .int .i64 0, .slice none 0 0, .string ⟨#[]⟩, .bool false] 45)).alloc (.cells #[.int .i64 2, .int .i64 t, .slice none 0 0, .string ⟨#[]⟩] 28)) (b := w.heap.size + 1 + 1) 5 (List.replicate S (.int .u8 0)) (by simp)
      simpa [byteN, unpack] using this
    · repeat (first | exact Below.refl _ _ | refine bl_alloc ?_ _)
    · exact ((rowAt.made w _ _).alloc _).alloc _
    · exact (rowAt.made_at _ _ (by simp)).alloc _
  case round =>
    obtain ⟨k, hk, rfl, HW⟩ := hrel
    by_cases hlt : k < S
    · have hk8 : k / 8 < bs.length := by have := HFL.out; omega
      have e0 : w.cell? ⟨b, o + i + (k / 8 + 1), none⟩ = some (.int .u64 bs[k / 8]) := HR.out _ _ (by simp only [wordsL, List.map_cons, List.getElem?_cons_succ]; rw [List.getElem?_map, List.getElem?_eq_getElem hk8]; rfl)
      have e1 : wr.cell? ⟨b, o + (i + 1 + k / 8), none⟩ = some (.int .u64 bs[k / 8]) := by
        rw [show o + (i + 1 + k / 8) = o + i + (k / 8 + 1) by omega]
        exact (HW.out.2.1.cell (p := ⟨b, o + i + (k / 8 + 1), none⟩) hb).trans e0
      have hfit := HBF.out _ (List.getElem_mem hk8)
      have HBY : Hid (((byteAt bs k).toNat : Int) = bs[k / 8] / 2 ^ (8 * (k % 8)) % 256) := by
        show _ = _
        rw [Nat.mul_comm 8]
        exact byteAt_eq bs k _ (by rw [List.getD_eq_getElem?_getD, List.getElem?_eq_getElem hk8]; rfl) hfit.1
      have hx0 := hfit.1
      have hx1 := hfit.2
      clear e0 hfit
      generalize bs[k / 8] = Z at *
      have e2 : (wr.cell? ⟨w.heap.size + 1 + 1, k, none⟩).isSome = true := HW.out.1.cell_there k (by rw [List.length_map, byteN_length _ _ _ hk]; exact hlt)
      obtain ⟨v2, e3⟩ := Option.isSome_iff_exists.1 e2
      have f3 : wr.frozen? ⟨w.heap.size + 1 + 1, k, none⟩ = false := HW.out.1.free _
      have q2 : 0 ≤ (k : Int) / 8 := by omega
      have q3 : (k : Int) / 8 ≤ 400 := by omega
      have q4 : ((i : Int) + 1 + (k : Int) / 8).toNat = i + 1 + k / 8 := by omega
      have q5 : (i : Int) + 1 + (k : Int) / 8 < (n : Int) := by omega
      clear e2
      have HST := Lib.hid (byteN_step bs S k hlt)
      go_wp2
      go_roundw
      case rel =>
        refine ⟨k + 1, by omega, by go_num, ?_, ?_, ?_, ?_⟩
        · rw [HST.out, List.map_set, HBY.out]
          exact HW.out.1.set k _
        · exact bl_set HW.out.2.1 (by simp; omega) _
        · exact HW.out.2.2.1.other _ _ (by show w.heap.size ≠ w.heap.size + 1 + 1; omega)
        · exact HW.out.2.2.2.other _ _ (by show w.heap.size + 1 ≠ w.heap.size + 1 + 1; omega)
      case measure => simp [intOf]; omega
    · obtain rfl : k = S := by omega
      have hbn : byteN bs k k = unpack bs k := by simp [byteN]
      have hul := length_unpack bs k
      have hrow := HW.out.1
      rw [hbn] at hrow
      have hcv : (convert 132 9 (.slice (some ⟨w.heap.size + 1 + 1, 0, none⟩) k k)).run Try.prog wr = .ok (.string s) wr := by
        have h := run_convert_bytes_back (P := Try.prog) wr 132 9 5 ⟨w.heap.size + 1 + 1, 0, none⟩ k (unpack bs k) under_bytes under_byte under_string (fun j hj => by
          rw [Addr.add_lit, hrow.cell, Nat.zero_add, List.getElem?_map, List.getElem?_eq_getElem hj]
          rfl)
        rw [hul] at h
        rw [HSE.out]
        exact h
      clear hrow hbn hul
      have R5 := Lib.hid HW.out.2.2.1
      have R6 := Lib.hid HW.out.2.2.2
      have HB1 := Lib.hid HW.out.2.1
      have hz1 := R6.out.lt
      have c0 := R6.out.cell 0
      have c1' := R6.out.cell 1
      have c2 := R6.out.cell 2
      have c3 := R6.out.cell 3
      have f3 := R6.out.free 3
      simp only [List.getElem?_cons_zero, List.getElem?_cons_succ] at c0 c1' c2 c3
      clear HW hlt d0 d4 d9 ha h1 h3 hmk
      have d7 : decide (k < k) = false := decide_eq_false (by omega)
      go_wp2_with fail
      obtain ⟨W, hW⟩ : ∃ W, W = wr.setCell ⟨w.heap.size + 1, 3, none⟩ (.string s) := ⟨_, rfl⟩
      rw [← hW]
      have r6W : rowAt W (w.heap.size + 1) 28 [.int .i64 2, .int .i64 t, .slice none 0 0, .string s] := by rw [hW]; exact R6.out.set 3 _
      have ne56 : w.heap.size ≠ w.heap.size + 1 := by omega
      have R5W : Hid (rowAt W w.heap.size 45 [.int .i64 0, .int .i64 0, .slice none 0 0, .string ⟨#[]⟩, .bool false]) := by rw [hW]; exact R5.out.other _ _ ne56
      have HBW : Hid (Below w.heap.size w W) := by rw [hW]; exact bl_set HB1.out (by simp) _
      have hzW := r6W.lt
      have R6W := Lib.hid r6W
      clear hW R6 R5 HB1 c0 c1' c2 c3 f3 hz1 r6W hcv
      obtain ⟨m, hm⟩ : ∃ m, m = headR 2 t 0 s.size := ⟨_, rfl⟩
      have hm2 : m = mayH 2 t k := by
        rw [hm, HSS.out]
        unfold headR hasH sizeH
        simp
      have HM2 := Lib.hid hm2
      have hMay := refMay_any 2 t none 0 0 s W
      rw [← hm] at hMay
      refine hMay.mono ?_
      rintro e w2 ⟨rfl, b2⟩
      clear hMay hm2
      have HHR : Hid (headR 2 t 0 s.size = m) := hm.symm
      clear hm
      have R5b := Lib.hid (R5W.out.below b2 R5W.out.lt)
      have R6b := Lib.hid (R6W.out.below b2 R6W.out.lt)
      have HB2 := Lib.hid (bl_call HBW.out b2)
      clear R5W R6W HBW b2
      have hz2 := R6b.out.lt
      have c0 := R6b.out.cell 0
      have c1' := R6b.out.cell 1
      have c2 := R6b.out.cell 2
      have c3 := R6b.out.cell 3
      have q0 := R5b.out.free 0
      have q1 := R5b.out.free 1
      have q2 := R5b.out.free 2
      have q3 := R5b.out.free 3
      have q4 := R5b.out.free 4
      have p0 := R5b.out.cell 0
      have p1 := R5b.out.cell 1
      have p2 := R5b.out.cell 2
      have p3 := R5b.out.cell 3
      have p4 := R5b.out.cell 4
      simp only [List.getElem?_cons_zero, List.getElem?_cons_succ] at c0 c1' c2 c3 p0 p1 p2 p3 p4
      cases m with
      | false =>
        have hz5 : w.heap.size < w2.heap.size := by omega
        go_wp2
        refine bodyPost_ret (v := zeroRead) (by simp [results, Try.results46, go_sem, hz5, p0, p1, p2, p3, p4]) rfl ⟨?_, .inr ⟨?_, rfl⟩⟩
        · repeat (first | exact HB2.out | refine bl_set ?_ (by simp) _)
        · rw [HQ.out, ← HM2.out]
          rfl
      | true =>
        go_wp2_with fail
        have hLay : ∀ W : World, Calls Try.prog 55 #[obj 2 t none 0 0 s] W fun e w' => ∃ v, e = .returned v ∧ w'.ownsRow W.heap.size 29 1 v (1 + (k + 7) / 8) (wordsL (X :: pack (unpack bs k))) ∧ Below W.heap.size W w' := by
          intro W
          have h := reLay_s t none 0 s HHR.out W
          rw [HSD.out, HSS.out, ← HX.out, pack_length, length_unpack] at h
          exact h
        refine (hLay _).mono ?_
        clear hLay
        rintro e w3 ⟨v3, rfl, ho3, b3⟩
        obtain ⟨a3, c3', rfl⟩ := owns_slice ho3
        have R5c := Lib.hid (R5b.out.below b3 R5b.out.lt)
        have R6c := Lib.hid (R6b.out.below b3 R6b.out.lt)
        have HB3 := Lib.hid (bl_call HB2.out b3)
        have HL3 := Lib.hid (readsAt.of_owns ho3)
        have HPL : Hid ((X :: pack (unpack bs k)).length = 1 + (k + 7) / 8 ∧ (X :: bs).length = 1 + (k + 7) / 8) := by
          refine ⟨?_, ?_⟩
          · rw [List.length_cons, pack_length, length_unpack]; omega
          · rw [List.length_cons, HFL.out]; omega
        clear ho3 b3 R5b R6b HB2 c0 c1' c2 c3 p0 p1 p2 p3 p4 q0 q1 q2 q3 q4 hz2
        go_wp2
        go_loopw [12] (fun j wr => ∃ g m : Nat, g ≤ 1 + (k + 7) / 8 ∧ j = .int .i64 (g : Int) ∧ wr = w3.drewN m ∧ Hid ((X :: pack (unpack bs k)).take g = (X :: bs).take g)) (fun j _ => 1 + (k + 7) / 8 - (intOf j).toNat)
        case atStart => exact ⟨0, 0, Nat.zero_le _, rfl, rfl, by simp [Hid]⟩
        case round =>
          obtain ⟨g, m, hg, rfl, rfl, HT⟩ := hrel
          have hz3 := R6c.out.lt
          have hz5 : w.heap.size < w3.heap.size := by omega
          have c0 := R6c.out.cell 0
          have c1' := R6c.out.cell 1
          have c2 := R6c.out.cell 2
          have c3 := R6c.out.cell 3
          have q0 := R5c.out.free 0
          have q1 := R5c.out.free 1
          have q2 := R5c.out.free 2
          have q3 := R5c.out.free 3
          have q4 := R5c.out.free 4
          have p0 := R5c.out.cell 0
          have p1 := R5c.out.cell 1
          have p2 := R5c.out.cell 2
          have p3 := R5c.out.cell 3
          have p4 := R5c.out.cell 4
          simp only [List.getElem?_cons_zero, List.getElem?_cons_succ] at c0 c1' c2 c3 p0 p1 p2 p3 p4
          by_cases hlt : g < 1 + (k + 7) / 8
          · have hl1 : g < (X :: pack (unpack bs k)).length := by rw [HPL.out.1]; exact hlt
            have hl2 : g < (X :: bs).length := by rw [HPL.out.2]; exact hlt
            have e1 : w3.cell? ⟨b, o + (i + g), none⟩ = some (.int .u64 (X :: bs)[g]) := by
              have h1 := HR.out g (.int .u64 (X :: bs)[g]) (by rw [List.getElem?_map, List.getElem?_eq_getElem hl2]; rfl)
              rw [show o + (i + g) = o + i + g by omega]
              exact (HB3.out.cell (p := ⟨b, o + i + g, none⟩) hb).trans h1
            obtain ⟨_, _, e0, hrd⟩ := HL3.out
            cases e0
            rcases hrd with h0 | ⟨b3, o3, rfl, hcell⟩
            · omega
            have e2 : w3.cell? ⟨b3, o3 + g, none⟩ = some (.int .u64 (X :: pack (unpack bs k))[g]) := hcell g (.int .u64 (X :: pack (unpack bs k))[g]) (by rw [List.getElem?_map, List.getElem?_eq_getElem hl1]; rfl)
            have t1 : ((i : Int) + (g : Int)).toNat = i + g := by omega
            clear hcell
            by_cases heq : (X :: pack (unpack bs k))[g] = (X :: bs)[g]
            · have HS := Lib.hid (take_same HT.out hl1 hl2 heq)
              rw [heq] at e2
              clear heq
              generalize (X :: bs)[g] = Y at e1 e2
              have hYY : (Y != Y) = false := by simp
              clear hl1 hl2
              go_wp2
              go_quiet (fail)
              go_wp2
              go_roundw
              case rel => exact ⟨g + 1, _, by omega, by go_num, rfl, HS.out⟩
              case measure => simp [intOf]; omega
            · have hYZ : ((X :: pack (unpack bs k))[g] != (X :: bs)[g]) = true := by simpa using heq
              have HQ2 : Hid (q = none) := by
                show q = none
                rw [HQ.out, ← HM2.out]
                cases hsd : soundH 2 bs k with
                | false => rfl
                | true =>
                  exfalso
                  have := pack_unpack bs k HFL.out HBF.out hsd
                  apply heq
                  simp only [this]
              clear heq
              generalize (X :: bs)[g] = Y at e1 hYZ
              generalize (X :: pack (unpack bs k))[g] = Z at e2 hYZ
              clear hl1 hl2
              go_wp2
              go_quiet (fail)
              go_wp2
              refine bodyPost_ret (v := zeroRead) (by simp [results, Try.results46, go_sem, hz5, p0, p1, p2, p3, p4]) rfl ⟨?_, .inr ⟨HQ2.out, rfl⟩⟩
              repeat (first | exact bl_drewN HB3.out _ | refine bl_set ?_ (by simp) _)
          · obtain rfl : g = 1 + (k + 7) / 8 := by omega
            have HQ2 : Hid (q = some ⟨2, t, [], unpack bs k⟩) := by
              show q = _
              have h1 := HT.out
              rw [List.take_of_length_le (by rw [HPL.out.1]; omega), List.take_of_length_le (by rw [HPL.out.2]; omega)] at h1
              have h2 : pack (unpack bs k) = bs := by injection h1
              have h3 := sound_pack 2 (unpack bs k)
              rw [h2, length_unpack] at h3
              rw [HQ.out, ← HM2.out, h3]
              rfl
            clear hlt
            go_wp2
            refine bodyPost_ret (v := readV 2 t none 0 0 s true) (by simp [results, Try.results46, go_sem, hz5, p0, p1, p2, p3, p4]) rfl ⟨?_, .inl ⟨⟨2, t, [], unpack bs k⟩, none, 0, s, HQ2.out, HSD.out, rfl, ?_⟩⟩
            · repeat (first | exact bl_drewN HB3.out _ | refine bl_set ?_ (by simp) _)
            · exact ⟨rfl, .inl ⟨rfl, rfl⟩⟩
end Go.Proofs.Ytejbblhlbilpnaa
