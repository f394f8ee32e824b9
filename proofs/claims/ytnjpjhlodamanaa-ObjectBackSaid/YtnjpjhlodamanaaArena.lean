/-
  The contracts of package arena: what each call returns of an arena that lies in memory as 'ArenaIn' says, and how it lies behind the call.
  Conditions: as each states.
-/
import Derived.Test.YtnjpjhlodamanaaArenaM
import Derived.Test.YtnjpjhlodamanaaSlices
import Derived.WalkSpells
import Derived.Deep.QuietTactic
import Derived.BigQuiet
namespace Go.Proofs.Ytnjpjhlodamanaa
open Go.ChangeShapes Go.WideShapes Go.ChangeAt Go.RowKit
set_option linter.unusedVariables false
set_option linter.unusedSimpArgs false

def Ar.bs (A : Ar) : List Int := A.rs.map fun r => (r.1 : Int)

structure ArenaIn (w : World) (p bw bm : Nat) (bv : Value) (A : Ar) : Prop where
  root : rowAt w p 87 [.slice (some ⟨bw, 0, none⟩) A.ws.length A.ws.length, .map (some bm), bv]
  words : rowAt w bw 39 (A.ws.map (Value.int .u64))
  regs : mapAt w bm (A.slot bw)
  bases : w.ownsRow 0 3 1 bv A.bs.length (ints A.bs)
  pw : p ≠ bw
  pm : p ≠ bm
  wm : bw ≠ bm
  own : ∀ g, bv.ownBlock = some g → g ≠ p ∧ g ≠ bw ∧ g ≠ bm
  ok : A.Ok

def foot (p bw bm : Nat) (bv : Value) : Nat → Prop := fun k => k = p ∨ k = bw ∨ k = bm ∨ bv.ownBlock = some k

theorem ArenaIn.upon {w w' : World} {p bw bm : Nat} {bv : Value} {A : Ar} (h : ArenaIn w p bw bm bv A) {S : Nat → Prop} (hu : Upon S w w') (hS : ∀ k, foot p bw bm bv k → ¬ S k) : ArenaIn w' p bw bm bv A :=
  ⟨h.root.upon hu (hS p (.inl rfl)), h.words.upon hu (hS bw (.inr (.inl rfl))), h.regs.upon hu (hS bm (.inr (.inr (.inl rfl)))), owns_upon h.bases hu fun g hg => hS g (.inr (.inr (.inr hg))), h.pw, h.pm, h.wm, h.own, h.ok⟩
theorem ArenaIn.lt {w : World} {p bw bm : Nat} {bv : Value} {A : Ar} (h : ArenaIn w p bw bm bv A) : ∀ k, foot p bw bm bv k → k < w.heap.size := by
  rintro k (rfl | rfl | rfl | hk)
  · exact h.root.lt
  · exact h.words.lt
  · exact h.regs.lt
  · exact (h.bases.lt k hk).2
theorem ArenaIn.below {w w' : World} {p bw bm : Nat} {bv : Value} {A : Ar} (h : ArenaIn w p bw bm bv A) (hb : Below w.heap.size w w') : ArenaIn w' p bw bm bv A :=
  h.upon (S := fun _ => False) (Upon.of_below hb) (fun _ _ h => h)

theorem under_map : Try.prog.underlying 85 = some (.map 3 30) := by kernel_rfl
theorem under_int : Try.prog.underlying 3 = some (.int .i64) := by kernel_rfl
theorem zero_words (w : World) : (zeroValue 30).run Try.prog w = .ok (.slice none 0 0) w := by kernel_rfl

def slotV (A : Ar) (bw : Nat) (k : Int) : Value := (A.slot bw k).getD (.slice none 0 0)

theorem region_any {w : World} {p bw bm : Nat} {bv : Value} {A : Ar} (h : ArenaIn w p bw bm bv A) (k : Int) :
    Calls Try.prog 55 #[.pointer (some ⟨p, 0, none⟩), .int .i64 k] w fun e w' => e = .returned (slotV A bw k) ∧ w = w' := by
  have c1 : w.cell? ⟨p, 1, none⟩ = some (.map (some bm)) := (h.root.cell 1).trans rfl
  have hl := run_lookup_int under_map under_int h.regs (zero_words w) k false
  simp only [if_neg (by decide : ¬ (false = true))] at hl
  change _ = Result.ok (slotV A bw k) w at hl
  clear h
  go_enter Try.func55, Try.ntmps55
  go_wp2
  go_ret
  exact ⟨rfl, rfl⟩

theorem region_nil (w : World) (k : Int) :
    Calls Try.prog 55 #[.pointer none, .int .i64 k] w fun e w' => e = .returned (.slice none 0 0) ∧ w = w' := by
  go_enter Try.func55, Try.ntmps55
  go_wp2
  go_ret
  exact ⟨rfl, rfl⟩

theorem slotV_some {A : Ar} {bw b n : Nat} (hf : A.find (b : Int) = some n) : slotV A bw (b : Int) = .slice (some ⟨bw, b, none⟩) n n := by simp [slotV, Ar.slot, hf]
theorem slotV_none {A : Ar} {bw : Nat} {k : Int} (hf : A.find k = none) : slotV A bw k = .slice none 0 0 := by simp [slotV, Ar.slot, hf]

theorem region_some {w : World} {p bw bm : Nat} {bv : Value} {A : Ar} (h : ArenaIn w p bw bm bv A) {b n : Nat} (hf : A.find (b : Int) = some n) :
    Calls Try.prog 55 #[.pointer (some ⟨p, 0, none⟩), .int .i64 (b : Int)] w fun e w' => e = .returned (.slice (some ⟨bw, b, none⟩) n n) ∧ w = w' :=
  (region_any h b).mono fun e w' ⟨he, hw⟩ => ⟨by rw [he, slotV_some hf], hw⟩
theorem region_none {w : World} {p bw bm : Nat} {bv : Value} {A : Ar} (h : ArenaIn w p bw bm bv A) {k : Int} (hf : A.find k = none) :
    Calls Try.prog 55 #[.pointer (some ⟨p, 0, none⟩), .int .i64 k] w fun e w' => e = .returned (.slice none 0 0) ∧ w = w' :=
  (region_any h k).mono fun e w' ⟨he, hw⟩ => ⟨by rw [he, slotV_none hf], hw⟩

theorem word_yes {w : World} {p bw bm : Nat} {bv : Value} {A : Ar} (h : ArenaIn w p bw bm bv A) {b n i : Nat} (hf : A.find (b : Int) = some n) (hi : i < n) :
    Calls Try.prog 41 #[.pointer (some ⟨p, 0, none⟩), .int .i64 (b : Int), .int .i64 (i : Int)] w fun e w' => e = .returned (.pointer (some ⟨bw, b + i, none⟩)) ∧ w = w' := by
  have hb := h.ok.bound hf
  have hm := h.ok.max
  go_enter Try.func41, Try.ntmps41
  go_wp2_with (go_at_call 55; refine (region_some h hf).mono ?_; rintro e w' ⟨rfl, rfl⟩)
  go_ret
  exact ⟨rfl, rfl⟩

theorem word_out {w : World} {p bw bm : Nat} {bv : Value} {A : Ar} (h : ArenaIn w p bw bm bv A) {b n : Nat} {i : Int} (hf : A.find (b : Int) = some n) (hi : ¬ (0 ≤ i ∧ i < n)) :
    Calls Try.prog 41 #[.pointer (some ⟨p, 0, none⟩), .int .i64 (b : Int), .int .i64 i] w fun e w' => e = .returned (.pointer none) ∧ w = w' := by
  by_cases h0 : i < 0
  · clear hi
    go_enter Try.func41, Try.ntmps41
    go_wp2_with (go_at_call 55; refine (region_some h hf).mono ?_; rintro e w' ⟨rfl, rfl⟩)
    go_ret
    exact ⟨rfl, rfl⟩
  · have h1 : (n : Int) ≤ i := by omega
    have h2 : 0 ≤ i := by omega
    clear hi h0
    go_enter Try.func41, Try.ntmps41
    go_wp2_with (go_at_call 55; refine (region_some h hf).mono ?_; rintro e w' ⟨rfl, rfl⟩)
    go_ret
    exact ⟨rfl, rfl⟩

theorem word_none {w : World} {p bw bm : Nat} {bv : Value} {A : Ar} (h : ArenaIn w p bw bm bv A) {k i : Int} (hf : A.find k = none) :
    Calls Try.prog 41 #[.pointer (some ⟨p, 0, none⟩), .int .i64 k, .int .i64 i] w fun e w' => e = .returned (.pointer none) ∧ w = w' := by
  by_cases h0 : i < 0
  · go_enter Try.func41, Try.ntmps41
    go_wp2_with (go_at_call 55; refine (region_none h hf).mono ?_; rintro e w' ⟨rfl, rfl⟩)
    go_ret
    exact ⟨rfl, rfl⟩
  · have h2 : 0 ≤ i := by omega
    go_enter Try.func41, Try.ntmps41
    go_wp2_with (go_at_call 55; refine (region_none h hf).mono ?_; rintro e w' ⟨rfl, rfl⟩)
    go_ret
    exact ⟨rfl, rfl⟩

/-- The pointer that 'word' hands out. -/
def wordP (A : Ar) (bw : Nat) (k i : Int) : Value := if A.inB k i then .pointer (some ⟨bw, (k + i).toNat, none⟩) else .pointer none

theorem word_any {w : World} {p bw bm : Nat} {bv : Value} {A : Ar} (h : ArenaIn w p bw bm bv A) (k i : Int) :
    Calls Try.prog 41 #[.pointer (some ⟨p, 0, none⟩), .int .i64 k, .int .i64 i] w fun e w' => e = .returned (wordP A bw k i) ∧ w = w' := by
  cases hf : A.find k with
  | none => exact (word_none h hf).mono fun e w' ⟨he, hw⟩ => ⟨by rw [he]; simp [wordP, Ar.inB, hf], hw⟩
  | some n =>
    obtain ⟨b, rfl⟩ := Int.eq_ofNat_of_zero_le (h.ok.bound hf).1
    by_cases hi : 0 ≤ i ∧ i < n
    · obtain ⟨j, rfl⟩ := Int.eq_ofNat_of_zero_le hi.1
      refine (word_yes h hf (i := j) (by omega)).mono fun e w' ⟨he, hw⟩ => ⟨?_, hw⟩
      rw [he]
      have : ((b : Int) + (j : Int)).toNat = b + j := by omega
      simp [wordP, Ar.inB, hf, this]
      omega
    · refine (word_out h hf hi).mono fun e w' ⟨he, hw⟩ => ⟨?_, hw⟩
      rw [he]
      have : (decide (0 ≤ i ∧ i < (n : Int))) = false := by simpa using hi
      simp only [wordP, Ar.inB, hf, this]
      rfl

theorem Ar.Ok.inB {A : Ar} (h : A.Ok) {k i : Int} (hi : A.inB k i = true) : 0 ≤ k ∧ 0 ≤ i ∧ k + i < A.ws.length := by
  unfold Ar.inB at hi
  split at hi
  · rename_i n hf
    have := h.bound hf
    simp at hi
    omega
  · cases hi

theorem get_any {w : World} {p bw bm : Nat} {bv : Value} {A : Ar} (h : ArenaIn w p bw bm bv A) (k i : Int) :
    Calls Try.prog 46 #[.pointer (some ⟨p, 0, none⟩), .int .i64 k, .int .i64 i] w fun e w' => e = .returned (.tuple #[.int .u64 (A.getW k i), .bool (A.inB k i)]) ∧ w = w' := by
  cases hi : A.inB k i with
  | false =>
    have hw : wordP A bw k i = .pointer none := by simp [wordP, hi]
    have hg : A.getW k i = 0 := by simp [Ar.getW, hi]
    have HG := Lib.hid hg
    have HW := Lib.hid hw
    clear hw hg hi
    go_enter Try.func46, Try.ntmps46
    go_wp2_with (go_at_call 41; refine (word_any h k i).mono ?_; rintro e w' ⟨rfl, rfl⟩; rw [HW.out])
    go_ret2
    rw [HG.out]
    exact ⟨rfl, rfl⟩
  | true =>
    have hw : wordP A bw k i = .pointer (some ⟨bw, (k + i).toNat, none⟩) := by simp [wordP, hi]
    have hb := h.ok.inB hi
    have hg : A.getW k i = A.ws.getD (k + i).toNat 0 := by simp [Ar.getW, hi]
    have hc : w.cell? ⟨bw, (k + i).toNat, none⟩ = some (.int .u64 (A.ws.getD (k + i).toNat 0)) := by
      rw [h.words.cell, List.getElem?_map, List.getD_eq_getElem?_getD, List.getElem?_eq_getElem (by omega)]
      rfl
    have HG := Lib.hid hg
    have HW := Lib.hid hw
    clear hw hg hi hb
    go_enter Try.func46, Try.ntmps46
    go_wp2_with (go_at_call 41; refine (word_any h k i).mono ?_; rintro e w' ⟨rfl, rfl⟩; rw [HW.out])
    go_ret2
    rw [HG.out]
    exact ⟨rfl, rfl⟩

theorem ArenaIn.set {w : World} {p bw bm : Nat} {bv : Value} {A : Ar} (h : ArenaIn w p bw bm bv A) {k i : Int} (hi : A.inB k i = true) {x : Int} (hx : (Lit.int .u64 x).wf = true) :
    ArenaIn (w.setCell ⟨bw, (k + i).toNat, none⟩ (.int .u64 x)) p bw bm bv (A.set k i x) := by
  have e : A.set k i x = { A with ws := A.ws.set (k + i).toNat x } := by simp [Ar.set, hi]
  have ok := h.ok.set k i x hx
  have hu : Upon (fun b => b = bw) w (w.setCell ⟨bw, (k + i).toNat, none⟩ (.int .u64 x)) := Upon.setCell _ _ rfl
  rw [e] at ok ⊢
  refine ⟨?_, ?_, h.regs.upon hu (Ne.symm h.wm), owns_upon h.bases hu fun g hg => (h.own g hg).2.1, h.pw, h.pm, h.wm, h.own, ok⟩
  · have := h.root.upon hu h.pw
    simpa using this
  · have := h.words.set (k + i).toNat (.int .u64 x)
    simpa [List.map_set] using this

theorem set_any {w : World} {p bw bm : Nat} {bv : Value} {A : Ar} (h : ArenaIn w p bw bm bv A) (k i x : Int) (hx : (Lit.int .u64 x).wf = true) :
    Calls Try.prog 22 #[.pointer (some ⟨p, 0, none⟩), .int .i64 k, .int .i64 i, .int .u64 x] w fun e w' => e = .returned (.bool (A.inB k i)) ∧ ArenaIn w' p bw bm bv (A.set k i x) ∧ Upon (fun b => b = bw) w w' := by
  cases hi : A.inB k i with
  | false =>
    have hw : wordP A bw k i = .pointer none := by simp [wordP, hi]
    have hs : A.set k i x = A := by simp [Ar.set, hi]
    have HS := Lib.hid hs
    have HW := Lib.hid hw
    clear hw hs hi
    go_enter Try.func22, Try.ntmps22
    go_wp2_with (go_at_call 41; refine (word_any h k i).mono ?_; rintro e w' ⟨rfl, rfl⟩; rw [HW.out])
    go_ret
    exact ⟨rfl, by rw [HS.out]; exact h, Upon.refl _ _⟩
  | true =>
    have hw : wordP A bw k i = .pointer (some ⟨bw, (k + i).toNat, none⟩) := by simp [wordP, hi]
    have hb := h.ok.inB hi
    have hc : w.cell? ⟨bw, (k + i).toNat, none⟩ = some (.int .u64 (A.ws.getD (k + i).toNat 0)) := by
      rw [h.words.cell, List.getElem?_map, List.getD_eq_getElem?_getD, List.getElem?_eq_getElem (by omega)]
      rfl
    have hf := h.words.free (k + i).toNat
    have HN := Lib.hid (h.set hi hx)
    have HW := Lib.hid hw
    clear hw hi hb
    go_enter Try.func22, Try.ntmps22
    go_wp2_with (go_at_call 41; refine (word_any h k i).mono ?_; rintro e w' ⟨rfl, rfl⟩; rw [HW.out])
    go_ret
    exact ⟨rfl, HN.out, Upon.setCell _ _ rfl⟩

theorem ArenaIn.drewN {w : World} {p bw bm : Nat} {bv : Value} {A : Ar} (h : ArenaIn w p bw bm bv A) (n : Nat) : ArenaIn (w.drewN n) p bw bm bv A :=
  h.upon (Upon.drewN (fun _ => False) w n) fun _ _ h => h

theorem roomAt_more (n : Int) {rs : List (Nat × Nat)} {k lo : Nat} (hk : k < rs.length) (h : ¬ n ≤ (rs[k].1 : Int) - lo) :
    roomAt n (rs.drop k) lo = ((roomAt n (rs.drop (k + 1)) (rs[k].1 + rs[k].2)).1, (roomAt n (rs.drop (k + 1)) (rs[k].1 + rs[k].2)).2 + 1) := by
  rw [List.drop_eq_getElem_cons hk]
  simp [roomAt, h]
theorem roomAt_here (n : Int) {rs : List (Nat × Nat)} {k lo : Nat} (hk : k < rs.length) (h : n ≤ (rs[k].1 : Int) - lo) : roomAt n (rs.drop k) lo = (lo, 0) := by
  rw [List.drop_eq_getElem_cons hk]
  simp [roomAt, h]

theorem room_any {w : World} {p bw bm : Nat} {bv : Value} {A : Ar} (h : ArenaIn w p bw bm bv A) (n : Int) :
    Calls Try.prog 39 #[.pointer (some ⟨p, 0, none⟩), .int .i64 n] w fun e w' => e = .returned (.tuple #[.int .i64 (A.at n), .int .i64 (A.idx n)]) ∧ ArenaIn w' p bw bm bv A ∧ Upon (fun _ => False) w w' := by
  have c1 : w.cell? ⟨p, 1, none⟩ = some (.map (some bm)) := (h.root.cell 1).trans rfl
  have c2 : w.cell? ⟨p, 2, none⟩ = some bv := (h.root.cell 2).trans rfl
  have hlen := h.ok.chain.len
  have hm := h.ok.max
  rcases owns_parts h.bases with ⟨rfl, h0, h1⟩ | ⟨g, cap, rest, rfl, hg, hr, hl, hcap, hn, hmx⟩
  · have hrs : A.rs = [] := by simpa [Ar.bs] using h0
    have e1 : A.at n = 0 := by simp [Ar.at, hrs, roomAt]
    have e2 : A.idx n = 0 := by simp [Ar.idx, hrs, roomAt]
    have E1 := Lib.hid e1
    have E2 := Lib.hid e2
    clear e1 e2 hrs h0 h1
    go_enter Try.func39, Try.ntmps39
    go_wp2
    go_rounds 1
    go_quiet (fail)
    go_wp2
    go_ret2
    exact ⟨by rw [E1.out, E2.out]; rfl, h.drewN _, Upon.drewN _ _ _⟩
  · have hbl : A.bs.length = A.rs.length := by simp [Ar.bs]
    have hcell : ∀ k, (hk : k < A.rs.length) → w.cell? ⟨g, k, none⟩ = some (.int .i64 (A.rs[k].1 : Int)) := by
      intro k hk
      rw [hr.cell, List.getElem?_append_left (by simp [Ar.bs]; exact hk)]
      simp [Ar.bs, hk]
    have hslot : ∀ k, (hk : k < A.rs.length) → slotV A bw (A.rs[k].1 : Int) = .slice (some ⟨bw, A.rs[k].1, none⟩) A.rs[k].2 A.rs[k].2 := by
      intro k hk
      exact slotV_some (h.ok.chain.get k hk).2.2.2
    have hget := h.ok.chain.get
    have HC : Hid (∀ k, (hk : k < A.rs.length) → w.cell? ⟨g, k, none⟩ = some (.int .i64 (A.rs[k].1 : Int))) := hcell
    have HS : Hid (∀ k, (hk : k < A.rs.length) → slotV A bw (A.rs[k].1 : Int) = .slice (some ⟨bw, A.rs[k].1, none⟩) A.rs[k].2 A.rs[k].2) := hslot
    have HG : Hid (∀ (i : Nat) (h : i < A.rs.length), 0 ≤ A.rs[i].1 ∧ 1 ≤ A.rs[i].2 ∧ A.rs[i].1 + A.rs[i].2 ≤ A.ws.length ∧ findR A.rs (A.rs[i].1 : Int) = some A.rs[i].2) := hget
    clear hcell hslot hget
    rw [hbl] at c2
    have HB := Lib.hid hbl
    clear hbl hl hcap
    go_enter Try.func39, Try.ntmps39
    go_wp2
    go_loop [4, 13] (fun a i => ∃ k lo : Nat, k ≤ A.rs.length ∧ lo ≤ A.ws.length ∧ i = .int .i64 k ∧ a = .int .i64 lo ∧ roomAt n A.rs 0 = ((roomAt n (A.rs.drop k) lo).1, (roomAt n (A.rs.drop k) lo).2 + k)) (fun _ i => A.rs.length - (intOf i).toNat)
    case atStart => exact ⟨0, 0, Nat.zero_le _, Nat.zero_le _, rfl, rfl, by simp⟩
    case round =>
      obtain ⟨k, lo, hk, hlo, rfl, rfl, hroom⟩ := hrel
      have HR := Lib.hid hroom
      clear hroom
      by_cases hlt : k < A.rs.length
      · have hc := HC.out k hlt
        have hsl := HS.out k hlt
        obtain ⟨g1, g2, g3, g4⟩ := HG.out k hlt
        clear g4
        have hlk := run_lookup_int under_map under_int h.regs (zero_words w) (A.rs[k].1 : Int) false
        simp only [if_neg (by decide : ¬ (false = true))] at hlk
        change _ = Result.ok (slotV A bw (A.rs[k].1 : Int)) w at hlk
        rw [hsl] at hlk
        clear hsl
        by_cases hc1 : n ≤ (A.rs[k].1 : Int) - lo
        · have e := roomAt_here n hlt hc1
          have e1 : A.at n = lo := by unfold Ar.at; rw [HR.out, e]
          have e2 : A.idx n = k := by unfold Ar.idx; rw [HR.out, e]; simp
          have E1 := Lib.hid e1
          have E2 := Lib.hid e2
          clear e e1 e2
          go_wp2
          go_ret2
          exact ⟨by rw [E1.out, E2.out]; rfl, h, Upon.refl _ _⟩
        · have E := Lib.hid (roomAt_more n hlt hc1)
          go_wp2
          go_round
          case rel => exact ⟨k + 1, A.rs[k].1 + A.rs[k].2, by omega, by omega, by go_num, by go_num, by rw [HR.out, E.out]; simp; omega⟩
          case measure => simp [intOf]; omega
      · obtain rfl : k = A.rs.length := by omega
        have e : roomAt n (A.rs.drop A.rs.length) lo = (lo, 0) := by simp [roomAt]
        have e1 : A.at n = lo := by unfold Ar.at; rw [HR.out, e]
        have e2 : A.idx n = A.rs.length := by unfold Ar.idx; rw [HR.out, e]; simp
        have E1 := Lib.hid e1
        have E2 := Lib.hid e2
        clear e e1 e2
        go_wp2
        go_quiet (fail)
        go_wp2
        go_ret2
        exact ⟨by rw [E1.out, E2.out]; rfl, h.drewN _, Upon.drewN _ _ _⟩

end Go.Proofs.Ytnjpjhlodamanaa
