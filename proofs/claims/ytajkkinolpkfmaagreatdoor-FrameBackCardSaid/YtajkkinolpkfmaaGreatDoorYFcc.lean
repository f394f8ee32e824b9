/-
  Package gc: where a heap's objects stand, against words that may point to them (plain facts).
  Conditions: as each states.
-/
import Derived.Test.YtajkkinolpkfmaaGreatDoorObQ
import Derived.Test.YtajkkinolpkfmaaGreatDoorSlices
import Derived.Test.YtajkkinolpkfmaaGreatDoorYGa
import Derived.Deep.RegionWith
import Derived.Deep.DeepCutAuto
import Derived.Test.YtajkkinolpkfmaaGreatDoorYCoIn
import Derived.Deep.RegionHeld3
import Derived.Deep.QuietTactic
import Derived.Test.YtajkkinolpkfmaaGreatDoorKeep
import Derived.Laws.StructEq
import Derived.Lib.SmallJoins
import Derived.SizedLaws
import Derived.Test.YtajkkinolpkfmaaGreatDoorYFb
import Derived.Deep.RegionLaw
namespace Go.Proofs.YtajkkinolpkfmaaGreatDoor
set_option linter.unusedVariables false
set_option linter.unusedSimpArgs false
open Go.ChangeShapes Go.WideShapes Go.ChangeAt Go.RowKit
set_option maxRecDepth 100000

theorem starts_low : ∀ (obs : List Ob) (a j : Nat), j ∈ starts a obs → a ≤ j
  | [], _, _, h => by cases h
  | o :: os, a, j, h => by
    unfold starts at h
    rcases List.mem_cons.1 h with rfl | h
    · exact Nat.le_refl _
    · have := starts_low os _ _ h
      omega
theorem starts_rise : ∀ (obs : List Ob) (a : Nat), (starts a obs).Pairwise (· < ·)
  | [], _ => List.Pairwise.nil
  | o :: os, a => by
    unfold starts
    refine List.Pairwise.cons (fun j hj => ?_) (starts_rise os _)
    have := starts_low os _ _ hj
    have := o.words_pos
    omega
theorem starts_mem : ∀ (obs : List Ob) (a j : Nat), j ∈ starts a obs ↔ a ≤ j ∧ (objAt obs (j - a)).isSome = true
  | [], _, _ => by simp [starts, objAt]
  | o :: os, a, j => by
    have hw := o.words_pos
    unfold starts
    rw [List.mem_cons, starts_mem os]
    constructor
    · rintro (rfl | ⟨h1, h2⟩)
      · exact ⟨Nat.le_refl _, by simp [objAt]⟩
      · refine ⟨by omega, ?_⟩
        unfold objAt
        rw [if_neg (by omega), if_neg (by omega), show j - a - o.words = j - (a + o.words) by omega]
        exact h2
    · rintro ⟨h1, h2⟩
      unfold objAt at h2
      by_cases h3 : j - a = 0
      · exact .inl (by omega)
      · rw [if_neg h3] at h2
        by_cases h4 : j - a < o.words
        · rw [if_pos h4] at h2; cases h2
        · rw [if_neg h4, show j - a - o.words = j - (a + o.words) by omega] at h2
          exact .inr ⟨by omega, h2⟩
theorem starts_length : ∀ (obs : List Ob) (a : Nat), (starts a obs).length ≤ (flat obs).length
  | [], _ => Nat.le_refl _
  | o :: os, a => by
    have := starts_length os (a + o.words)
    have hw := o.words_pos
    unfold starts
    rw [flat_cons, List.length_append, o.lay_length, List.length_cons]
    omega
section
variable {A : Ar} {base half space top : Int} {obs : List Ob}
theorem places_rise : (A.placesI base half space top).Pairwise (· ≤ ·) := by
  unfold Ar.placesI
  cases A.objs base half space top with
  | none => exact List.Pairwise.nil
  | some obs =>
    simp only
    rw [List.pairwise_map]
    exact (starts_rise obs 0).imp fun h => by omega
theorem places_few (ok : A.Ok) (ho : A.objs base half space top = some obs) : (A.placesI base half space top).length ≤ 2000 := by
  obtain ⟨_, _, h3, h4⟩ := objs_ok ok ho
  have hl := semi_length ok h4
  have hn := lies_nums h4
  rw [h3] at hl
  unfold Ar.placesI
  rw [ho]
  simp only [List.length_map]
  have := starts_length obs 0
  omega
/-- A word that may point is found among the places just if there is an object. -/
theorem places_has (h0 : 0 ≤ space * half) (ho : A.objs base half space top = some obs) (x : Int) : (wOk x && (A.placesI base half space top).contains (wAt x)) = (refers (space * half) obs x).isSome := by
  unfold refers
  cases h : wOk x
  · simp
  · have hc : (A.placesI base half space top).contains (wAt x) = (decide (space * half ≤ wAt x) && (objAt obs (wAt x - space * half).toNat).isSome) := by
      rw [Bool.eq_iff_iff, List.contains_iff_mem, Bool.and_eq_true, decide_eq_true_eq]
      unfold Ar.placesI
      rw [ho]
      simp only [List.mem_map, starts_mem]
      constructor
      · rintro ⟨j, ⟨_, hj⟩, e⟩
        refine ⟨by omega, ?_⟩
        rw [show (wAt x - space * half).toNat = j - 0 by omega]
        exact hj
      · rintro ⟨h1, h2⟩
        exact ⟨(wAt x - space * half).toNat, ⟨Nat.zero_le _, by simpa using h2⟩, by omega⟩
    rw [hc, Bool.true_and, Bool.true_and]
    cases h2 : (decide (space * half ≤ wAt x) && (objAt obs (wAt x - space * half).toNat).isSome) <;> simp
end
/-- Whether the heap, and all these words as its roots, may be. -/
def Ar.rootsOk (A : Ar) (base half space top : Int) (rs : List Int) : Bool := match A.objs base half space top with
  | none => false
  | some obs => rs.all (fieldOk (space * half) obs)
end Go.Proofs.YtajkkinolpkfmaaGreatDoor

/-
  Package gc: the copy of a list of words; whether a heap and its roots may be; room for no words.
  Conditions: as each states.
-/
namespace Go.Proofs.YtajkkinolpkfmaaGreatDoor
set_option linter.unusedVariables false
set_option linter.unusedSimpArgs false
open Go.ChangeShapes Go.WideShapes Go.ChangeAt Go.RowKit
set_option maxRecDepth 100000

set_option maxHeartbeats 1000000 in
theorem copied_G {S : Nat → Prop} {w : World} {v : Value} {n : Nat} {cs : List Value} (h : rdAt S w v n cs) (hl : cs.length = n * 1) (h1 : ∀ u ∈ cs, u.oneCell' = true) (hn : n ≤ 100000) :
    Calls Tryz.prog 80 #[v] w (CpPost 43 n cs w) := by
  obtain ⟨a, c, rfl, h⟩ := h
  obtain ⟨zs, hzl, hmk⟩ := make_wide under_W info_W (by decide) n hn
  by_cases h0 : n = 0
  · subst h0
    obtain rfl : cs = [] := List.length_eq_zero_iff.1 (by omega)
    have hc := run_copy_noneF (P := Tryz.prog) (w.alloc (.cells ⟨zs⟩ 43)) 40 40 3 43 (some ⟨w.heap.size, 0, none⟩) a 0 0 0 c under_W (by rw [size_W]; rfl) rfl
    have E := Lib.hid (cp_none (T := 43) (zs := zs) (w := w) (by omega))
    have hmk0 : ∀ w : World, (Instr.makeSlice 40 (.int .i64 0) (.int .i64 0)).run Tryz.prog w = .ok (.slice (some ⟨w.heap.size, 0, none⟩) 0 0) (w.alloc (.cells ⟨zs⟩ 43)) := hmk
    clear hmk h hl h1 hzl
    go_enter Tryz.func80, Tryz.ntmps80
    go_wp2_with fail
    go_ret
    exact E.out
  · rcases h with h | ⟨b, o, rfl, -, hb, hc⟩
    · exact absurd h h0
    have r1 := rowAt.made w 43 zs
    have hsrc : ∀ j v, cs[j]? = some v → (w.alloc (.cells ⟨zs⟩ 43)).cell? ((⟨b, o, none⟩ : Addr).add j) = some v := fun j v hj => by
      rw [show ((⟨b, o, none⟩ : Addr).add j) = ⟨b, o + j, none⟩ by unfold Addr.add; split <;> simp_all]
      exact ((down_alloc (Below.refl w.heap.size w) (.cells ⟨zs⟩ 43)).cell (p := ⟨b, o + j, none⟩) hb).trans (hc j v hj)
    have hcp := run_copy_wideF (P := Tryz.prog) (w.alloc (.cells ⟨zs⟩ 43)) 40 40 3 43 w.heap.size 0 n n ⟨b, o, none⟩ n c zs 43 cs n 1 under_W size_W r1 (Nat.min_self n) hl.symm hsrc (by omega) h1
    obtain ⟨W, hW⟩ : ∃ W, (w.alloc (.cells ⟨zs⟩ 43)).setRow w.heap.size (splF zs 0 cs).toArray = W := ⟨_, rfl⟩
    rw [hW] at hcp
    have E := Lib.hid (cp_end (T := 43) (n := n) (cs := cs) (zs := zs) (w := w) (W := W) (Lib.hid hW.symm) (by omega))
    have n2 : (0 : Int) ≤ n := by omega
    clear hW hsrc hc hl h1 hzl r1 hb h0
    go_enter Tryz.func80, Tryz.ntmps80
    go_wp2_with fail
    go_ret
    exact E.out
/-- A look for a number in a rising row. -/
theorem search_row {w : World} {B : Nat} {v : Value} {xs : List Int} (h : w.ownsRow B 3 1 v xs.length (xs.map (Value.int .i64))) (x : Int) (hs : xs.Pairwise (· ≤ ·)) (hlen : xs.length ≤ 100000) :
    Calls Tryz.prog 103 #[v, .int .i64 x] w fun e w' => ∃ i : Int, e = .returned (.tuple #[.int .i64 i, .bool (xs.contains x)]) ∧ ∃ q, w' = w.drewN q := by
  rcases Nat.eq_zero_or_pos xs.length with h0 | h0
  · obtain rfl := List.length_eq_zero_iff.1 h0
    obtain ⟨a, c, rfl⟩ : ∃ a c, v = .slice a 0 c := by
      rcases owns_parts h with ⟨rfl, _⟩ | ⟨g, cap, rest, rfl, _⟩
      · exact ⟨_, _, rfl⟩
      · exact ⟨_, _, rfl⟩
    refine (Any.slices_BinarySearch_int_empty Tryz.laysNm225 a c x w).mono ?_
    rintro e w' ⟨rfl, rfl⟩
    exact ⟨0, rfl, 0, rfl⟩
  · exact (search_own h x hs h0 hlen).mono fun e w' ⟨he, hq⟩ => ⟨_, he, hq⟩

set_option maxHeartbeats 4000000 in
theorem gcMay_any {S : Nat → Prop} {w : World} {p : Nat} {F : Nat → Prop} {A : Ar} (hA : Held w p F A) (base half space top : Int) {v : Value} {rs : List Int} (hv : rdAt S w v rs.length (wdL rs)) (hx : ∀ x ∈ rs, fitW x) (hl : rs.length ≤ 100000) :
    Calls Tryz.prog 79 #[.pointer (some ⟨p, 0, none⟩), heapV base half space top, v] w fun e w' => e = .returned (.bool (A.rootsOk base half space top rs)) ∧ Below w.heap.size w w' := by
  obtain ⟨ra, rc, rfl⟩ := hv.slice
  have HV := Lib.hid hv
  have HX := Lib.hid hx
  have HA := Lib.hid (all_any (hA.below (w' := w.alloc (.cells #[.int .i64 base, .int .i64 half, .int .i64 space, .int .i64 top] 39)) (bl_alloc (Below.refl _ _) _)) base half space top)
  have OK := Lib.hid hA.ok
  have B0 := Lib.hid (bl_alloc (Below.refl w.heap.size w) (.cells #[.int .i64 base, .int .i64 half, .int .i64 space, .int .i64 top] 39))
  clear hv hx hA
  go_enter Tryz.func79, Tryz.ntmps79
  go_wp2_with fail
  refine HA.out.mono ?_
  rintro e w1 ⟨pv, rfl, ho, hb⟩
  have HO := Lib.hid ho
  have B1 := Lib.hid (bl_call B0.out hb)
  clear ho hb
  cases hobs : A.objs base half space top with
  | none =>
    have E := Lib.hid (show A.rootsOk base half space top rs = false by unfold Ar.rootsOk; rw [hobs])
    clear hobs
    go_wp2_with fail
    go_ret
    exact ⟨ret_bool E.out.symm, B1.out⟩
  | some obs =>
    have HS := Lib.hid hobs
    have PL := Lib.hid (places_few OK.out hobs)
    have H0 : Hid (0 ≤ space * half) := Lib.hid (lies_nums (objs_ok OK.out hobs).2.2.2).2.2.2.2.2.2.1
    have E0 := Lib.hid (show A.rootsOk base half space top rs = rs.all (fieldOk (space * half) obs) by unfold Ar.rootsOk; rw [hobs])
    obtain ⟨ps, hps⟩ : ∃ ps, A.placesI base half space top = ps := ⟨_, rfl⟩
    have RI := Lib.hid (hps ▸ places_rise (A := A) (base := base) (half := half) (space := space) (top := top))
    have HH := Lib.hid (fun x => hps ▸ places_has H0.out hobs x)
    rw [hps] at HO PL
    clear hobs hps
    obtain ⟨pa, pc, rfl⟩ := owns_slice HO.out
    go_wp2_with fail
    go_loopw [25] (fun i wr => ∃ k : Nat, k ≤ rs.length ∧ i = .int .i64 k ∧ Hid ((rs.take k).all (fieldOk (space * half) obs) = true) ∧ Hid (Below w1.heap.size w1 wr)) (fun i _ => rs.length - (intOf i).toNat)
    case atStart => exact ⟨0, Nat.zero_le _, rfl, Lib.hid (by simp), Lib.hid (Below.refl _ _)⟩
    case round =>
      obtain ⟨k, hk, rfl, HR, HB⟩ := hrel
      by_cases hlt : k < rs.length
      · obtain ⟨x, hx⟩ : ∃ x, rs[k]? = some x := ⟨_, List.getElem?_eq_getElem hlt⟩
        have FX := Lib.hid (HX.out x (List.mem_of_getElem? hx))
        obtain ⟨b, o, rfl, hcell⟩ : ∃ b o, ra = some ⟨b, o, none⟩ ∧ wr.cell? ⟨b, o + k, none⟩ = some (.int .u64 x) := by
          obtain ⟨a, c, e, h⟩ := HV.out
          injection e with e1 e2 e3
          subst e1
          rcases h with h | ⟨b, o, h1, _, h3, h4⟩
          · omega
          · exact ⟨b, o, h1, ((bl_call B1.out HB.out).cell (p := ⟨b, o + k, none⟩) h3).trans (h4 k _ (by rw [List.getElem?_map, hx]; rfl))⟩
        have SN : Hid ((rs.take (k + 1)).all (fieldOk (space * half) obs) = fieldOk (space * half) obs x) := Lib.hid (by
          rw [List.take_add_one, hx, List.all_append, HR.out]
          simp)
        have XI := Lib.hid hx
        have HO' := Lib.hid (owns_below HO.out HB.out (fun q hq => (HO.out.lt q hq).2))
        have FO : Hid (fieldOk (space * half) obs x = ((wOk x && ps.contains (wAt x)) || wIs x)) := Lib.hid (by unfold fieldOk; rw [HH.out x])
        obtain ⟨ax, hax⟩ : ∃ ax, wAt x = ax := ⟨_, rfl⟩
        obtain ⟨bo, hbo⟩ : ∃ bo, wOk x = bo := ⟨_, rfl⟩
        obtain ⟨bi, hbi⟩ : ∃ bi, wIs x = bi := ⟨_, rfl⟩
        obtain ⟨bc, hbc⟩ : ∃ bc, ps.contains ax = bc := ⟨_, rfl⟩
        have AT := Lib.hid (show ∀ W, Calls Tryz.prog 102 #[.int .u64 x] W fun e w' => e = .returned (.tuple #[.int .i64 ax, .bool bo]) ∧ W = w' from fun W => hax ▸ hbo ▸ at_any x FX.out.1 (by have := FX.out; unfold fitW at this; omega) W)
        have IS := Lib.hid (show ∀ W, Calls Tryz.prog 88 #[.int .u64 x] W fun e w' => e = .returned (.bool bi) ∧ W = w' from fun W => hbi ▸ is_any x FX.out.1 (by have := FX.out; unfold fitW at this; omega) W)
        have SE := Lib.hid (hbc ▸ search_row HO'.out ax RI.out (by have := PL.out; omega))
        rw [hax, hbo, hbi, hbc] at FO
        clear hax hbo hbi hbc hx HR
        go_wp2_with fail
        refine (AT.out _).mono ?_
        rintro e w2 ⟨rfl, rfl⟩
        go_wp2_with fail
        refine SE.out.mono ?_
        rintro e w3 ⟨j, rfl, q, rfl⟩
        go_wp2_with fail
        refine (IS.out _).mono ?_
        rintro e w4 ⟨rfl, rfl⟩
        have NO : Hid (fieldOk (space * half) obs x = false → A.rootsOk base half space top rs = false) := Lib.hid (fun h => by
          rw [E0.out]
          exact Bool.eq_false_iff.2 fun h2 => by have := List.all_eq_true.1 h2 x (List.mem_of_getElem? XI.out); rw [h] at this; cases this)
        have BE := Lib.hid (show Below w.heap.size w (wr.drewN q) from down_drewN (bl_call B1.out HB.out) _)
        have BE2 := Lib.hid (show Below w1.heap.size w1 (wr.drewN q) from down_drewN HB.out _)
        cases bi
        · cases bo
          · go_wp2_with fail
            go_ret
            exact ⟨ret_bool (NO.out (by rw [FO.out]; rfl)).symm, BE.out⟩
          · cases bc
            · go_wp2_with fail
              go_ret
              exact ⟨ret_bool (NO.out (by rw [FO.out]; rfl)).symm, BE.out⟩
            · go_wp2_with fail
              go_roundw
              case rel => exact ⟨k + 1, by omega, by go_num, Lib.hid (by rw [SN.out, FO.out]; rfl), BE2⟩
              case measure => simp [intOf]; omega
        · go_wp2_with fail
          go_roundw
          case rel => exact ⟨k + 1, by omega, by go_num, Lib.hid (by rw [SN.out, FO.out, Bool.or_true]), BE2⟩
          case measure => simp [intOf]; omega
      · obtain rfl : k = rs.length := by omega
        have E : Hid (A.rootsOk base half space top rs = true) := Lib.hid (by
          rw [E0.out]
          have h := HR.out
          rwa [List.take_length] at h)
        go_wp2_with fail
        go_ret
        exact ⟨ret_bool E.out.symm, bl_call B1.out HB.out⟩
end Go.Proofs.YtajkkinolpkfmaaGreatDoor

/-
  Package gc: room where there is room, or where the heap or its roots may not be.
  Conditions: as each states.
-/
namespace Go.Proofs.YtajkkinolpkfmaaGreatDoor
set_option linter.unusedVariables false
set_option linter.unusedSimpArgs false
open Go.ChangeShapes Go.WideShapes Go.ChangeAt Go.RowKit
set_option maxRecDepth 100000

theorem cells4G {w : World} {b : Nat} {T : TypeId} {a c d e : Value} (h : rowAt w b T [a, c, d, e]) : w.cell? ⟨b, 0, none⟩ = some a ∧ w.cell? ⟨b, 1, none⟩ = some c ∧ w.cell? ⟨b, 2, none⟩ = some d ∧ w.cell? ⟨b, 3, none⟩ = some e :=
  ⟨h.cell 0, h.cell 1, h.cell 2, h.cell 3⟩
theorem gcMay_is {S : Nat → Prop} {w : World} {p : Nat} {F : Nat → Prop} {A : Ar} {base half space top : Int} {v : Value} {rs : List Int} {b : Bool} (hb : A.rootsOk base half space top rs = b) (hA : Held w p F A) (hv : rdAt S w v rs.length (wdL rs)) (hx : ∀ x ∈ rs, fitW x) (hl : rs.length ≤ 100000) :
    Calls Tryz.prog 79 #[.pointer (some ⟨p, 0, none⟩), heapV base half space top, v] w fun e w' => e = .returned (.bool b) ∧ Below w.heap.size w w' := hb ▸ gcMay_any hA base half space top hv hx hl
/-- What Room tells where there is room. -/
def RoomYes (base half space top : Int) (rs : List Int) (w : World) (e : Ending) (w' : World) : Prop :=
  ∃ g, e = .returned (.tuple #[heapV base half space top, .slice (some ⟨g, 0, none⟩) rs.length rs.length, .bool true]) ∧ w.heap.size ≤ g ∧ rowAt w' g 43 (wdL rs) ∧ Below w.heap.size w w'
def RoomNo (w : World) (e : Ending) (w' : World) : Prop :=
  e = .returned (.tuple #[heapV 0 0 0 0, .slice none 0 0, .bool false]) ∧ Below w.heap.size w w'
set_option maxHeartbeats 4000000 in
theorem gcRoom_no {S : Nat → Prop} {w : World} {p : Nat} {F : Nat → Prop} {A : Ar} {base half space top n : Int} {v : Value} {rs : List Int} (hb : A.rootsOk base half space top rs = false) (hn : 0 ≤ n) (hA : Held w p F A) (hv : rdAt S w v rs.length (wdL rs)) (hx : ∀ x ∈ rs, fitW x) (hl : rs.length ≤ 100000) :
    Calls Tryz.prog 50 #[.pointer (some ⟨p, 0, none⟩), heapV base half space top, v, .int .i64 n] w (RoomNo w) := by
  obtain ⟨ra, rc, rfl⟩ := hv.slice
  obtain ⟨W, hW⟩ : ∃ W, (w.alloc (.cells #[.int .i64 base, .int .i64 half, .int .i64 space, .int .i64 top] 39)).alloc (.cells #[.int .i64 0, .int .i64 0, .int .i64 0, .int .i64 0] 39) = W := ⟨_, rfl⟩
  have R1 := Lib.hid (show rowAt W w.heap.size 39 [.int .i64 base, .int .i64 half, .int .i64 space, .int .i64 top] by rw [← hW]; exact (rowAt.made w _ _).alloc _)
  have R2 := Lib.hid (show rowAt W (w.heap.size + 1) 39 [.int .i64 0, .int .i64 0, .int .i64 0, .int .i64 0] by rw [← hW]; exact rowAt.made_at _ _ (by simp))
  have BW := Lib.hid (show Below w.heap.size w W by rw [← hW]; exact down_alloc (down_alloc (Below.refl _ _) _) _)
  have MY := Lib.hid (gcMay_is hb (hA.below BW.out) (hv.below BW.out) hx hl)
  obtain ⟨c0, c1, c2, c3⟩ := cells4G R1.out
  have d0 : decide (n < 0) = false := decide_eq_false (by omega)
  clear hv hx hA hb
  go_enter Tryz.func50, Tryz.ntmps50
  go_wp2_with fail
  refine MY.out.mono ?_
  rintro e w1 ⟨rfl, hb⟩
  have B1 := Lib.hid (down_call BW.out hb)
  have S2 := Lib.hid (R2.out.below hb R2.out.lt)
  obtain ⟨e0, e1, e2, e3⟩ := cells4G S2.out
  have f0 := S2.out.free 0
  have f1 := S2.out.free 1
  have f2 := S2.out.free 2
  have f3 := S2.out.free 3
  have sl := S2.out.lt
  clear hb hW
  go_wp2_with fail
  obtain ⟨W3, hW3⟩ : ∃ W3, (((w1.setCell ⟨w.heap.size + 1, 0, none⟩ (.int .i64 0)).setCell ⟨w.heap.size + 1, 1, none⟩ (.int .i64 0)).setCell ⟨w.heap.size + 1, 2, none⟩ (.int .i64 0)).setCell ⟨w.heap.size + 1, 3, none⟩ (.int .i64 0) = W3 := ⟨_, rfl⟩
  have r3 : rowAt W3 (w.heap.size + 1) 39 [.int .i64 0, .int .i64 0, .int .i64 0, .int .i64 0] := by rw [← hW3]; exact (((S2.out.set 0 _).set 1 _).set 2 _).set 3 _
  have b3 : Below w.heap.size w W3 := by
    rw [← hW3]
    iterate 4 refine down_set ?_ (by dsimp only; omega) _
    exact B1.out
  rw [hW3]
  clear hW3 e0 e1 e2 e3 f0 f1 f2 f3 sl
  obtain ⟨e0, e1, e2, e3⟩ := cells4G r3
  refine bodyPost_ret (v := .tuple #[heapV 0 0 0 0, .slice none 0 0, .bool false]) (by simp [results, Tryz.results50, go_sem, e0, e1, e2, e3]) rfl ⟨rfl, b3⟩
set_option maxHeartbeats 4000000 in
theorem gcRoom_yes {S : Nat → Prop} {w : World} {p : Nat} {F : Nat → Prop} {A : Ar} {base half space top n : Int} {v : Value} {rs : List Int} (hb : A.rootsOk base half space top rs = true) (hn : 0 ≤ n) (hr : n ≤ half - top) (hA : Held w p F A) (hv : rdAt S w v rs.length (wdL rs)) (hx : ∀ x ∈ rs, fitW x) (hl : rs.length ≤ 100000) :
    Calls Tryz.prog 50 #[.pointer (some ⟨p, 0, none⟩), heapV base half space top, v, .int .i64 n] w (RoomYes base half space top rs w) := by
  obtain ⟨ra, rc, rfl⟩ := hv.slice
  obtain ⟨obs, hobs⟩ : ∃ obs, A.objs base half space top = some obs := by
    unfold Ar.rootsOk at hb
    cases h : A.objs base half space top with
    | none => rw [h] at hb; cases hb
    | some obs => exact ⟨obs, rfl⟩
  have NU := Lib.hid (lies_nums (objs_ok hA.ok hobs).2.2.2)
  obtain ⟨W, hW⟩ : ∃ W, (w.alloc (.cells #[.int .i64 base, .int .i64 half, .int .i64 space, .int .i64 top] 39)).alloc (.cells #[.int .i64 0, .int .i64 0, .int .i64 0, .int .i64 0] 39) = W := ⟨_, rfl⟩
  have R1 := Lib.hid (show rowAt W w.heap.size 39 [.int .i64 base, .int .i64 half, .int .i64 space, .int .i64 top] by rw [← hW]; exact (rowAt.made w _ _).alloc _)
  have R2 := Lib.hid (show rowAt W (w.heap.size + 1) 39 [.int .i64 0, .int .i64 0, .int .i64 0, .int .i64 0] by rw [← hW]; exact rowAt.made_at _ _ (by simp))
  have BW := Lib.hid (show Below w.heap.size w W by rw [← hW]; exact down_alloc (down_alloc (Below.refl _ _) _) _)
  have MY := Lib.hid (gcMay_is hb (hA.below BW.out) (hv.below BW.out) hx hl)
  have HV := Lib.hid (hv.below BW.out)
  have HL := Lib.hid hl
  obtain ⟨c0, c1, c2, c3⟩ := cells4G R1.out
  have d0 : decide (n < 0) = false := decide_eq_false (by omega)
  have HR := Lib.hid hr
  clear hv hx hA hb hobs hl hr
  go_enter Tryz.func50, Tryz.ntmps50
  go_wp2_with fail
  refine MY.out.mono ?_
  rintro e w1 ⟨rfl, hb⟩
  have B1 := Lib.hid (down_call BW.out hb)
  have S1 := Lib.hid (R1.out.below hb R1.out.lt)
  have S2 := Lib.hid (R2.out.below hb R2.out.lt)
  have HV1 := Lib.hid (HV.out.below hb)
  obtain ⟨c0, c1, c2, c3⟩ := cells4G S1.out
  have d1 : decide (n ≤ half - top) = true := decide_eq_true HR.out
  have d2 : wrap64 (half - top) = half - top := by have := NU.out; unfold wrap64; omega
  clear hb hW
  go_wp2_with fail
  go_region_with (go_at_call 80
                  refine (copied_G (HV1.out.below (down_drew (Below.refl _ _))) (wdL_length rs) wdL_one HL.out).mono ?_
                  rintro e w3 ⟨rfl, hr3, hb3⟩
                  have C3 := Lib.hid (show rowAt w3 w1.heap.size 43 (wdL rs) from hr3)
                  have B3 := Lib.hid (down_call (down_drew B1.out) hb3)
                  have Q1 := Lib.hid (S1.out.drew.below hb3 S1.out.lt)
                  have Q2 := Lib.hid (S2.out.drew.below hb3 S2.out.lt)
                  have GE := Lib.hid (show w.heap.size + 2 ≤ w1.heap.size by have := S2.out.lt; omega)
                  obtain ⟨c0, c1, c2, c3⟩ := cells4G Q1.out
                  obtain ⟨e0, e1, e2, e3⟩ := cells4G Q2.out
                  have f0 := Q2.out.free 0
                  have f1 := Q2.out.free 1
                  have f2 := Q2.out.free 2
                  have f3 := Q2.out.free 3
                  have sl := Q2.out.lt
                  clear hr3 hb3)
  all_goals
    go_wp2_with fail
    obtain ⟨W3, hW3⟩ : ∃ W3, (((w3.setCell ⟨w.heap.size + 1, 0, none⟩ (.int .i64 base)).setCell ⟨w.heap.size + 1, 1, none⟩ (.int .i64 half)).setCell ⟨w.heap.size + 1, 2, none⟩ (.int .i64 space)).setCell ⟨w.heap.size + 1, 3, none⟩ (.int .i64 top) = W3 := ⟨_, rfl⟩
    have r3 : rowAt W3 (w.heap.size + 1) 39 [.int .i64 base, .int .i64 half, .int .i64 space, .int .i64 top] := by rw [← hW3]; exact (((Q2.out.set 0 _).set 1 _).set 2 _).set 3 _
    have b3 : Below w.heap.size w W3 := by
      rw [← hW3]
      iterate 4 refine down_set ?_ (by dsimp only; omega) _
      exact B3.out
    have c3' : rowAt W3 w1.heap.size 43 (wdL rs) := by
      rw [← hW3]
      have hg := GE.out
      exact (((C3.out.other _ _ (by dsimp only; omega)).other _ _ (by dsimp only; omega)).other _ _ (by dsimp only; omega)).other _ _ (by dsimp only; omega)
    rw [hW3]
    clear hW3 e0 e1 e2 e3 f0 f1 f2 f3 sl
    obtain ⟨e0, e1, e2, e3⟩ := cells4G r3
    refine bodyPost_ret (v := .tuple #[heapV base half space top, .slice (some ⟨w1.heap.size, 0, none⟩) rs.length rs.length, .bool true]) (by simp [results, Tryz.results50, go_sem, e0, e1, e2, e3]) rfl ⟨_, rfl, by have := GE.out; omega, c3', b3⟩
end Go.Proofs.YtajkkinolpkfmaaGreatDoor

/-
  Package frame: whether a machine's frames may be ('goodFrames').
  Conditions: as each states.
-/
namespace Go.Proofs.YtajkkinolpkfmaaGreatDoor
set_option linter.unusedVariables false
set_option linter.unusedSimpArgs false
open Go.ChangeShapes Go.WideShapes Go.ChangeAt Go.RowKit
set_option maxRecDepth 100000

/-- Frames that may be, their locals from 'least' on, upon a stack of n words. -/
def frG (fs : List PFn) (n : Int) : Int → List PFr → Bool
  | _, [] => true
  | least, f :: r => inF f.1 0 ((fs.length : Int) - 1) && (match fs[f.1.toNat]? with
    | none => false
    | some g => inF f.2.1 0 ((g.2.2.length : Int) - 1) && (inF f.2.2.1 least (n - g.1) && frG fs n (f.2.2.1 + g.1) r))
theorem fn_cells {S : Nat → Prop} {w : World} {v : Value} {fs : List PFn} (h : fnsAt S w v fs) {j : Nat} {g : PFn} (hj : fs[j]? = some g) :
    ∃ b o c a' c', v = .slice (some ⟨b, o, none⟩) fs.length c ∧ b < w.heap.size ∧ w.cell? ⟨b, o + j * 3, none⟩ = some (.int .i64 g.1) ∧ w.cell? ⟨b, o + j * 3 + 1, none⟩ = some (.int .i64 g.2.1) ∧ w.cell? ⟨b, o + j * 3 + 2, none⟩ = some (.slice a' g.2.2.length c') := by
  obtain ⟨a, c, rfl, h⟩ := h
  have hlt := (List.getElem?_eq_some_iff.1 hj).1
  rcases h with h | ⟨b, o, rfl, _, hb, hc⟩
  · omega
  · obtain ⟨c0, c1, v, c2, a', c', rfl, _⟩ := hc j g hj
    exact ⟨b, o, c, a', c', rfl, hb, c0, c1, c2⟩
structure FnsOk (fs : List PFn) : Prop where
  few : fs.length ≤ 60
  loc : ∀ g ∈ fs, 0 ≤ g.1 ∧ g.1 ≤ 60 ∧ g.2.2.length ≤ 600
set_option maxHeartbeats 16000000 in
theorem goodFrames_is {S S' : Nat → Prop} {w : World} {v1 : Value} {p2 p3 : Option Addr} {n2 n3 e2 e3 : Nat} {s h : Value} {sf : Value} {fs : List PFn} {M : PMa} {b : Bool} (hb : frG fs M.st.length 0 M.fr = b) (hp : fnsAt S w v1 fs) (hok : FnsOk fs) (k : maAt S' w s sf h M) (hs : M.st.length ≤ 100000) (hf : M.fr.length ≤ 100000) :
    Calls Tryz.prog 47 #[.agg #[v1, .slice p2 n2 e2, .slice p3 n3 e3], maV M.z0 M.z1 M.z2 M.z3 s sf h M.state M.res M.code] w fun e w' => e = .returned (.bool b) ∧ Below w.heap.size w w' := by
  obtain ⟨z0, z1, z2, z3, st, fr, hd, sta, res, cod⟩ := M
  obtain ⟨k1, k2, k3⟩ := k
  obtain ⟨a1, c1, rfl⟩ := k1.slice
  obtain ⟨a2, c2, rfl⟩ := k2.slice
  obtain ⟨a3, c3, rfl⟩ := k3.slice
  obtain ⟨a4, c4, rfl⟩ := hp.slice
  have HB := Lib.hid hb
  have HP := Lib.hid hp
  have K2 := Lib.hid k2
  have OK := Lib.hid hok
  have N1 := Lib.hid hs
  have N2 := Lib.hid hf
  simp only at HB K2 N1 N2
  clear hb hp hok k1 k2 k3 hs hf
  obtain ⟨W, hW⟩ : ∃ W, (w.alloc (.cells #[.slice a4 fs.length c4, .slice p2 n2 e2, .slice p3 n3 e3] 37)).alloc (.cells #[.int .i64 z0, .int .i64 z1, .int .i64 z2, .int .i64 z3, .slice a1 st.length c1, .slice a2 fr.length c2, .slice a3 hd.length c3, .int .i64 sta, .int .u64 res, .int .i64 cod] 45) = W := ⟨_, rfl⟩
  have R1 := Lib.hid (show rowAt W w.heap.size 37 [.slice a4 fs.length c4, .slice p2 n2 e2, .slice p3 n3 e3] by rw [← hW]; exact (rowAt.made w _ _).alloc _)
  have R2 := Lib.hid (show rowAt W (w.heap.size + 1) 45 [.int .i64 z0, .int .i64 z1, .int .i64 z2, .int .i64 z3, .slice a1 st.length c1, .slice a2 fr.length c2, .slice a3 hd.length c3, .int .i64 sta, .int .u64 res, .int .i64 cod] by rw [← hW]; exact rowAt.made_at _ _ (by simp))
  have BW := Lib.hid (show Below w.heap.size w W by rw [← hW]; exact down_alloc (down_alloc (Below.refl _ _) _) _)
  have m6 : W.cell? ⟨w.heap.size + 1, 5, none⟩ = some (.slice a2 fr.length c2) := R2.out.cell 5
  go_enter Tryz.func47, Tryz.ntmps47
  go_wp2_with fail
  clear hW m6
  have nf : fr.length ≤ 100000 := N2.out
  go_loopw [5, 12] (fun l i wr => ∃ (k : Nat) (L : Int), k ≤ fr.length ∧ i = .int .i64 k ∧ l = .int .i64 L ∧ Hid (frG fs st.length L (fr.drop k) = b) ∧ Hid (0 ≤ L) ∧ Hid (Below W.heap.size W wr)) (fun _ i _ => fr.length - (intOf i).toNat)
  case atStart => exact ⟨0, 0, Nat.zero_le _, rfl, rfl, HB, Lib.hid (Int.le_refl 0), Lib.hid (Below.refl _ _)⟩
  case round =>
    obtain ⟨k, L, hk, rfl, rfl, HR, HL, HW⟩ := hrel
    by_cases hlt : k < fr.length
    · obtain ⟨⟨F, PC, Q, sel⟩, hx⟩ : ∃ x, fr[k]? = some x := ⟨_, List.getElem?_eq_getElem hlt⟩
      have hdr : fr.drop k = (F, PC, Q, sel) :: fr.drop (k + 1) := by
        rw [List.drop_eq_getElem_cons hlt]
        congr 1
        exact Option.some.inj ((List.getElem?_eq_getElem hlt).symm.trans hx)
      have HD := Lib.hid (hdr ▸ HR.out)
      obtain ⟨g0, g1, g2, g3⟩ := frL_get fr k _ hx
      obtain ⟨fb, fo, rfl, hfb, hfc⟩ : ∃ b o, a2 = some ⟨b, o, none⟩ ∧ b < w.heap.size ∧ ∀ j u, (frL fr)[j]? = some u → w.cell? ⟨b, o + j, none⟩ = some u := by
        obtain ⟨a, c, e, h⟩ := K2.out
        injection e with e1 e2 e3
        subst e1
        rcases h with h | ⟨b, o, h1, _, h3, h4⟩
        · omega
        · exact ⟨b, o, h1, h3, h4⟩
      have bwr : Below w.heap.size w wr := down_call BW.out HW.out
      have cc : ∀ j u, (frL fr)[j]? = some u → wr.cell? ⟨fb, fo + j, none⟩ = some u := fun j u hj => (bwr.cell (p := ⟨fb, fo + j, none⟩) hfb).trans (hfc j u hj)
      have x0 := cc _ _ g0
      have x1 : wr.cell? ⟨fb, fo + k * 4 + 1, none⟩ = some (.int .i64 PC) := cc _ _ g1
      have x2 : wr.cell? ⟨fb, fo + k * 4 + 2, none⟩ = some (.int .i64 Q) := cc _ _ g2
      have x3 : wr.cell? ⟨fb, fo + k * 4 + 3, none⟩ = some (.int .u64 sel) := cc _ _ g3
      simp only at x0
      have p0 : wr.cell? ⟨w.heap.size, 0, none⟩ = some (.slice a4 fs.length c4) := ((R1.out.below HW.out R1.out.lt).cell 0).trans rfl
      have m4 : wr.cell? ⟨w.heap.size + 1, 4, none⟩ = some (.slice a1 st.length c1) := ((R2.out.below HW.out R2.out.lt).cell 4).trans rfl
      have HC := Lib.hid bwr
      have hfw : fb < w.heap.size := hfb
      clear cc g0 g1 g2 g3 hfc bwr hx hdr HR
      obtain ⟨WF, hWF⟩ : ∃ WF, wr.alloc (.cells #[.int .i64 F, .int .i64 PC, .int .i64 Q, .int .u64 sel] 65) = WF := ⟨_, rfl⟩
      have BF := Lib.hid (show Below wr.heap.size wr WF by rw [← hWF]; exact down_alloc (Below.refl _ _) _)
      have RF := Lib.hid (show rowAt WF wr.heap.size 65 [.int .i64 F, .int .i64 PC, .int .i64 Q, .int .u64 sel] by rw [← hWF]; exact rowAt.made _ _ _)
      have BZ := Lib.hid (down_call HC.out BF.out)
      have RP := Lib.hid (R1.out.below (down_call HW.out BF.out) R1.out.lt)
      have RM := Lib.hid (R2.out.below (down_call HW.out BF.out) R2.out.lt)
      have f0 : WF.cell? ⟨wr.heap.size, 0, none⟩ = some (.int .i64 F) := RF.out.cell 0
      have q0 : WF.cell? ⟨w.heap.size, 0, none⟩ = some (.slice a4 fs.length c4) := (RP.out.cell 0).trans rfl
      have N60 := Lib.hid OK.out.few
      have W1 := Lib.hid (show IntKind.i64.wrap ((fs.length : Int) - 1) = (fs.length : Int) - 1 by have := OK.out.few; rw [IntKind.wrap_i64]; omega)
      cases h1 : inF F 0 ((fs.length : Int) - 1)
      · have H1 := Lib.hid (show inF F 0 (IntKind.i64.wrap ((fs.length : Int) - 1)) = false by rw [W1.out]; exact h1)
        have E : Hid (false = b) := Lib.hid (by rw [← HD.out, frG, h1, Bool.false_and])
        clear h1
        go_wp2_with fail
        clear hWF
        refine wp_region_held_drew (S := fun w' => w'.cell? ⟨wr.heap.size, 0, none⟩ = some (.int .i64 F) ∧ w'.cell? ⟨w.heap.size, 0, none⟩ = some (.slice a4 fs.length c4)) (by kernel_rfl) (⟨f0, q0⟩) (fun hH0 => ?_)
        refine wpAnyH_take (i := 0) (oi := _) (v := ?_) (by simp only [List.getElem?_toArray, List.getElem?_cons_succ, List.getElem?_cons_zero]; rfl) (by kernel_rfl) (by kernel_rfl) (by kernel_rfl) (by exact fun _ _ _ h => h) (Or.inl ⟨by rfl, ?_⟩) (by assumption) ?_
        rotate_left
        · (intro w hSw; (try dsimp only at hSw); go_simp; try with_reducible rfl)
        try simp only [Act.put, List.setIfInBounds_toArray, List.set_cons_zero, List.set_cons_succ]
        refine wpAnyH_take (i := 1) (oi := _) (v := ?_) (by simp only [List.getElem?_toArray, List.getElem?_cons_succ, List.getElem?_cons_zero]; rfl) (by kernel_rfl) (by kernel_rfl) (by kernel_rfl) (by exact fun _ _ _ h => h) (Or.inl ⟨by rfl, ?_⟩) (by assumption) ?_
        rotate_left
        · (intro w hSw; (try dsimp only at hSw); go_simp; try with_reducible rfl)
        try simp only [Act.put, List.setIfInBounds_toArray, List.set_cons_zero, List.set_cons_succ]
        refine wpAnyH_take (i := 2) (oi := _) (v := ?_) (by simp only [List.getElem?_toArray, List.getElem?_cons_succ, List.getElem?_cons_zero]; rfl) (by kernel_rfl) (by kernel_rfl) (by kernel_rfl) (by exact fun _ _ _ h => h) (Or.inl ⟨by rfl, ?_⟩) (by assumption) ?_
        rotate_left
        · (intro w hSw; (try dsimp only at hSw); go_simp; try with_reducible rfl)
        try simp only [Act.put, List.setIfInBounds_toArray, List.set_cons_zero, List.set_cons_succ]
        refine wpAnyH_take (i := 3) (oi := _) (v := ?_) (by simp only [List.getElem?_toArray, List.getElem?_cons_succ, List.getElem?_cons_zero]; rfl) (by kernel_rfl) (by kernel_rfl) (by kernel_rfl) (by exact fun _ _ _ h => h) (Or.inl ⟨by rfl, ?_⟩) (by assumption) ?_
        rotate_left
        · (intro w hSw; (try dsimp only at hSw); go_simp; try with_reducible rfl)
        try simp only [Act.put, List.setIfInBounds_toArray, List.set_cons_zero, List.set_cons_succ]
        refine wpAnyH_take (i := 4) (oi := _) (v := ?_) (by simp only [List.getElem?_toArray, List.getElem?_cons_succ, List.getElem?_cons_zero]; rfl) (by kernel_rfl) (by kernel_rfl) (by kernel_rfl) (by exact fun _ _ _ h => h) (Or.inl ⟨by rfl, ?_⟩) (by assumption) ?_
        rotate_left
        · (intro w hSw; (try dsimp only at hSw); go_simp; try with_reducible rfl)
        try simp only [Act.put, List.setIfInBounds_toArray, List.set_cons_zero, List.set_cons_succ]
        refine wpAnyH_take (i := 5) (oi := _) (v := ?_) (by simp only [List.getElem?_toArray, List.getElem?_cons_succ, List.getElem?_cons_zero]; rfl) (by kernel_rfl) (by kernel_rfl) (by kernel_rfl) (by exact fun _ _ _ h => h) (Or.inl ⟨by rfl, ?_⟩) (by assumption) ?_
        rotate_left
        · (intro w hSw; (try dsimp only at hSw); go_simp; try with_reducible rfl)
        try simp only [Act.put, List.setIfInBounds_toArray, List.set_cons_zero, List.set_cons_succ]
        refine wpAnyH_ready (rs := [6]) (by kernel_rfl) (by simp) ?_
        refine AllReadyH.cons rfl (fun K hK => ?_) AllReadyH.nil
        go_simp
        refine (within_is H1.out _).mono ?_
        rintro e w3 ⟨rfl, rfl⟩
        go_wp2_with fail
        refine hK.out _ _ (⟨f0, q0⟩) (fun hH1 => ?_)
        clear hK K hH0
        try simp only [Act.put, List.setIfInBounds_toArray, List.set_cons_zero, List.set_cons_succ]
        refine wpAnyH_take (i := 7) (oi := _) (v := ?_) (by simp only [List.getElem?_toArray, List.getElem?_cons_succ, List.getElem?_cons_zero]; rfl) (by kernel_rfl) (by kernel_rfl) (by kernel_rfl) (by exact fun _ _ _ h => h) (Or.inl ⟨by rfl, ?_⟩) (by assumption) ?_
        rotate_left
        · (intro w hSw; (try dsimp only at hSw); go_simp; try with_reducible rfl)
        try simp only [Act.put, List.setIfInBounds_toArray, List.set_cons_zero, List.set_cons_succ]
        refine wpAnyH_take (i := 8) (oi := _) (v := ?_) (by simp only [List.getElem?_toArray, List.getElem?_cons_succ, List.getElem?_cons_zero]; rfl) (by kernel_rfl) (by kernel_rfl) (by kernel_rfl) (by exact fun _ _ _ h => h) (Or.inl ⟨by rfl, ?_⟩) (by assumption) ?_
        rotate_left
        · (intro w hSw; (try dsimp only at hSw); go_simp; try with_reducible rfl)
        try simp only [Act.put, List.setIfInBounds_toArray, List.set_cons_zero, List.set_cons_succ]
        refine wpAnyH_take (i := 9) (oi := _) (v := undef) (by simp only [List.getElem?_toArray, List.getElem?_cons_succ, List.getElem?_cons_zero]; rfl) (by kernel_rfl) (by kernel_rfl) (by kernel_rfl) (by exact fun _ _ _ h => h) (Or.inr ⟨by rfl, rfl⟩) (by assumption) ?_
        try simp only [Act.put, List.setIfInBounds_toArray, List.set_cons_zero, List.set_cons_succ]
        refine wpAnyH_take (i := 10) (oi := _) (v := undef) (by simp only [List.getElem?_toArray, List.getElem?_cons_succ, List.getElem?_cons_zero]; rfl) (by kernel_rfl) (by kernel_rfl) (by kernel_rfl) (by exact fun _ _ _ h => h) (Or.inr ⟨by rfl, rfl⟩) (by assumption) ?_
        try simp only [Act.put, List.setIfInBounds_toArray, List.set_cons_zero, List.set_cons_succ]
        refine wpAnyH_take (i := 11) (oi := _) (v := undef) (by simp only [List.getElem?_toArray, List.getElem?_cons_succ, List.getElem?_cons_zero]; rfl) (by kernel_rfl) (by kernel_rfl) (by kernel_rfl) (by exact fun _ _ _ h => h) (Or.inr ⟨by rfl, rfl⟩) (by assumption) ?_
        try simp only [Act.put, List.setIfInBounds_toArray, List.set_cons_zero, List.set_cons_succ]
        refine wpAnyH_take (i := 12) (oi := _) (v := undef) (by simp only [List.getElem?_toArray, List.getElem?_cons_succ, List.getElem?_cons_zero]; rfl) (by kernel_rfl) (by kernel_rfl) (by kernel_rfl) (by exact fun _ _ _ h => h) (Or.inr ⟨by rfl, rfl⟩) (by assumption) ?_
        try simp only [Act.put, List.setIfInBounds_toArray, List.set_cons_zero, List.set_cons_succ]
        refine wpAnyH_take (i := 13) (oi := _) (v := undef) (by simp only [List.getElem?_toArray, List.getElem?_cons_succ, List.getElem?_cons_zero]; rfl) (by kernel_rfl) (by kernel_rfl) (by kernel_rfl) (by exact fun _ _ _ h => h) (Or.inr ⟨by rfl, rfl⟩) (by assumption) ?_
        try simp only [Act.put, List.setIfInBounds_toArray, List.set_cons_zero, List.set_cons_succ]
        refine wpAnyH_take (i := 14) (oi := _) (v := undef) (by simp only [List.getElem?_toArray, List.getElem?_cons_succ, List.getElem?_cons_zero]; rfl) (by kernel_rfl) (by kernel_rfl) (by kernel_rfl) (by exact fun _ _ _ h => h) (Or.inr ⟨by rfl, rfl⟩) (by assumption) ?_
        try simp only [Act.put, List.setIfInBounds_toArray, List.set_cons_zero, List.set_cons_succ]
        refine wpAnyH_take (i := 15) (oi := _) (v := undef) (by simp only [List.getElem?_toArray, List.getElem?_cons_succ, List.getElem?_cons_zero]; rfl) (by kernel_rfl) (by kernel_rfl) (by kernel_rfl) (by exact fun _ _ _ h => h) (Or.inr ⟨by rfl, rfl⟩) (by assumption) ?_
        try simp only [Act.put, List.setIfInBounds_toArray, List.set_cons_zero, List.set_cons_succ]
        refine wpAnyH_take (i := 16) (oi := _) (v := undef) (by simp only [List.getElem?_toArray, List.getElem?_cons_succ, List.getElem?_cons_zero]; rfl) (by kernel_rfl) (by kernel_rfl) (by kernel_rfl) (by exact fun _ _ _ h => h) (Or.inr ⟨by rfl, rfl⟩) (by assumption) ?_
        try simp only [Act.put, List.setIfInBounds_toArray, List.set_cons_zero, List.set_cons_succ]
        refine wpAnyH_take (i := 17) (oi := _) (v := undef) (by simp only [List.getElem?_toArray, List.getElem?_cons_succ, List.getElem?_cons_zero]; rfl) (by kernel_rfl) (by kernel_rfl) (by kernel_rfl) (by exact fun _ _ _ h => h) (Or.inr ⟨by rfl, rfl⟩) (by assumption) ?_
        try simp only [Act.put, List.setIfInBounds_toArray, List.set_cons_zero, List.set_cons_succ]
        refine wpAnyH_take (i := 18) (oi := _) (v := undef) (by simp only [List.getElem?_toArray, List.getElem?_cons_succ, List.getElem?_cons_zero]; rfl) (by kernel_rfl) (by kernel_rfl) (by kernel_rfl) (by exact fun _ _ _ h => h) (Or.inr ⟨by rfl, rfl⟩) (by assumption) ?_
        try simp only [Act.put, List.setIfInBounds_toArray, List.set_cons_zero, List.set_cons_succ]
        refine wpAnyH_take (i := 19) (oi := _) (v := ?_) (by simp only [List.getElem?_toArray, List.getElem?_cons_succ, List.getElem?_cons_zero]; rfl) (by kernel_rfl) (by kernel_rfl) (by kernel_rfl) (by exact fun _ _ _ h => h) (Or.inl ⟨by rfl, ?_⟩) (by assumption) ?_
        rotate_left
        · (intro w hSw; (try dsimp only at hSw); go_simp; try with_reducible rfl)
        try simp only [Act.put, List.setIfInBounds_toArray, List.set_cons_zero, List.set_cons_succ]
        refine wpAnyH_done (by kernel_rfl) ?_ _
        go_wp2_with fail
        go_ret
        exact ⟨ret_bool E.out, down_drew BZ.out⟩
      · obtain ⟨hF0, hF1⟩ := inF_iff.1 h1
        obtain ⟨j, rfl⟩ := Int.eq_ofNat_of_zero_le hF0
        have H1 := Lib.hid (show inF (j : Int) 0 (IntKind.i64.wrap ((fs.length : Int) - 1)) = true by rw [W1.out]; exact h1)
        have hjl : j < fs.length := by omega
        obtain ⟨⟨gl, gf, gc⟩, hg⟩ : ∃ g, fs[j]? = some g := ⟨_, List.getElem?_eq_getElem hjl⟩
        have GL := Lib.hid (OK.out.loc _ (List.mem_of_getElem? hg))
        obtain ⟨nb, no, c4', ga, gcap, e4, hnb, n0, n1, n2⟩ := fn_cells (fns_below HP.out BZ.out) hg
        injection e4 with e4 _ e5
        subst e4 e5
        simp only at n0 n1 n2 GL
        have jl : (j : Int) < (fs.length : Int) := by omega
        have j0 : (0 : Int) ≤ (j : Int) := by omega
        have CF := Lib.hid (show ∀ W', Below WF.heap.size WF W' → (W'.cell? ⟨wr.heap.size, 0, none⟩ = some (.int .i64 (j : Int)) ∧ W'.cell? ⟨wr.heap.size, 1, none⟩ = some (.int .i64 PC) ∧ W'.cell? ⟨wr.heap.size, 2, none⟩ = some (.int .i64 Q) ∧ W'.cell? ⟨w.heap.size, 0, none⟩ = some (.slice (some ⟨nb, no, none⟩) fs.length c4) ∧ W'.cell? ⟨w.heap.size + 1, 4, none⟩ = some (.slice a1 st.length c1) ∧ W'.cell? ⟨nb, no + j * 3, none⟩ = some (.int .i64 gl) ∧ W'.cell? ⟨nb, no + j * 3 + 1, none⟩ = some (.int .i64 gf) ∧ W'.cell? ⟨nb, no + j * 3 + 2, none⟩ = some (.slice ga gc.length gcap)) from fun W' hb =>
          ⟨(RF.out.below hb RF.out.lt).cell 0, (RF.out.below hb RF.out.lt).cell 1, (RF.out.below hb RF.out.lt).cell 2, (RP.out.below hb RP.out.lt).cell 0, (RM.out.below hb RM.out.lt).cell 4, (hb.cell (p := ⟨nb, no + j * 3, none⟩) hnb).trans n0, (hb.cell (p := ⟨nb, no + j * 3 + 1, none⟩) hnb).trans n1, (hb.cell (p := ⟨nb, no + j * 3 + 2, none⟩) hnb).trans n2⟩)
        have HD2 : Hid ((inF PC 0 ((gc.length : Int) - 1) && (inF Q L ((st.length : Int) - gl) && frG fs st.length (Q + gl) (fr.drop (k + 1)))) = b) := Lib.hid (by
          have h := HD.out
          unfold frG at h
          simp only [h1, Bool.true_and, Int.toNat_natCast, hg] at h
          exact h)
        cases h2 : inF PC 0 ((gc.length : Int) - 1)
        · have H2 := Lib.hid h2
          have E : Hid (false = b) := Lib.hid (by rw [← HD2.out, h2, Bool.false_and])
          clear h1 h2 hF0 hF1 hg n0 n1 n2 f0 q0
          go_wp2_with fail
          clear hWF
          refine wp_region_held_drew (S := fun w' => w'.cell? ⟨wr.heap.size, 0, none⟩ = some (.int .i64 (j : Int)) ∧ w'.cell? ⟨wr.heap.size, 1, none⟩ = some (.int .i64 PC) ∧ w'.cell? ⟨wr.heap.size, 2, none⟩ = some (.int .i64 Q) ∧ w'.cell? ⟨w.heap.size, 0, none⟩ = some (.slice (some ⟨nb, no, none⟩) fs.length c4) ∧ w'.cell? ⟨w.heap.size + 1, 4, none⟩ = some (.slice a1 st.length c1) ∧ w'.cell? ⟨nb, no + j * 3, none⟩ = some (.int .i64 gl) ∧ w'.cell? ⟨nb, no + j * 3 + 1, none⟩ = some (.int .i64 gf) ∧ w'.cell? ⟨nb, no + j * 3 + 2, none⟩ = some (.slice ga gc.length gcap)) (by kernel_rfl) (CF.out _ (down_drew (Below.refl _ _))) (fun hH0 => ?_)
          refine wpAnyH_take (i := 0) (oi := _) (v := ?_) (by simp only [List.getElem?_toArray, List.getElem?_cons_succ, List.getElem?_cons_zero]; rfl) (by kernel_rfl) (by kernel_rfl) (by kernel_rfl) (by exact fun _ _ _ h => h) (Or.inl ⟨by rfl, ?_⟩) (by assumption) ?_
          rotate_left
          · (intro w hSw; (try dsimp only at hSw); go_simp; try with_reducible rfl)
          try simp only [Act.put, List.setIfInBounds_toArray, List.set_cons_zero, List.set_cons_succ]
          refine wpAnyH_take (i := 1) (oi := _) (v := ?_) (by simp only [List.getElem?_toArray, List.getElem?_cons_succ, List.getElem?_cons_zero]; rfl) (by kernel_rfl) (by kernel_rfl) (by kernel_rfl) (by exact fun _ _ _ h => h) (Or.inl ⟨by rfl, ?_⟩) (by assumption) ?_
          rotate_left
          · (intro w hSw; (try dsimp only at hSw); go_simp; try with_reducible rfl)
          try simp only [Act.put, List.setIfInBounds_toArray, List.set_cons_zero, List.set_cons_succ]
          refine wpAnyH_take (i := 2) (oi := _) (v := ?_) (by simp only [List.getElem?_toArray, List.getElem?_cons_succ, List.getElem?_cons_zero]; rfl) (by kernel_rfl) (by kernel_rfl) (by kernel_rfl) (by exact fun _ _ _ h => h) (Or.inl ⟨by rfl, ?_⟩) (by assumption) ?_
          rotate_left
          · (intro w hSw; (try dsimp only at hSw); go_simp; try with_reducible rfl)
          try simp only [Act.put, List.setIfInBounds_toArray, List.set_cons_zero, List.set_cons_succ]
          refine wpAnyH_take (i := 3) (oi := _) (v := ?_) (by simp only [List.getElem?_toArray, List.getElem?_cons_succ, List.getElem?_cons_zero]; rfl) (by kernel_rfl) (by kernel_rfl) (by kernel_rfl) (by exact fun _ _ _ h => h) (Or.inl ⟨by rfl, ?_⟩) (by assumption) ?_
          rotate_left
          · (intro w hSw; (try dsimp only at hSw); go_simp; try with_reducible rfl)
          try simp only [Act.put, List.setIfInBounds_toArray, List.set_cons_zero, List.set_cons_succ]
          refine wpAnyH_take (i := 4) (oi := _) (v := ?_) (by simp only [List.getElem?_toArray, List.getElem?_cons_succ, List.getElem?_cons_zero]; rfl) (by kernel_rfl) (by kernel_rfl) (by kernel_rfl) (by exact fun _ _ _ h => h) (Or.inl ⟨by rfl, ?_⟩) (by assumption) ?_
          rotate_left
          · (intro w hSw; (try dsimp only at hSw); go_simp; try with_reducible rfl)
          try simp only [Act.put, List.setIfInBounds_toArray, List.set_cons_zero, List.set_cons_succ]
          refine wpAnyH_take (i := 5) (oi := _) (v := ?_) (by simp only [List.getElem?_toArray, List.getElem?_cons_succ, List.getElem?_cons_zero]; rfl) (by kernel_rfl) (by kernel_rfl) (by kernel_rfl) (by exact fun _ _ _ h => h) (Or.inl ⟨by rfl, ?_⟩) (by assumption) ?_
          rotate_left
          · (intro w hSw; (try dsimp only at hSw); go_simp; try with_reducible rfl)
          try simp only [Act.put, List.setIfInBounds_toArray, List.set_cons_zero, List.set_cons_succ]
          refine wpAnyH_ready (rs := [6]) (by kernel_rfl) (by simp) ?_
          refine AllReadyH.cons rfl (fun K hK => ?_) AllReadyH.nil
          go_simp
          refine (within_is H1.out _).mono ?_
          rintro e w3 ⟨rfl, rfl⟩
          go_wp2_with fail
          refine hK.out _ _ (CF.out _ (down_drew (Below.refl _ _))) (fun hH1 => ?_)
          clear hK K hH0
          try simp only [Act.put, List.setIfInBounds_toArray, List.set_cons_zero, List.set_cons_succ]
          refine wpAnyH_take (i := 7) (oi := _) (v := ?_) (by simp only [List.getElem?_toArray, List.getElem?_cons_succ, List.getElem?_cons_zero]; rfl) (by kernel_rfl) (by kernel_rfl) (by kernel_rfl) (by exact fun _ _ _ h => h) (Or.inl ⟨by rfl, ?_⟩) (by assumption) ?_
          rotate_left
          · (intro w hSw; (try dsimp only at hSw); go_simp; try with_reducible rfl)
          try simp only [Act.put, List.setIfInBounds_toArray, List.set_cons_zero, List.set_cons_succ]
          refine wpAnyH_take (i := 8) (oi := _) (v := ?_) (by simp only [List.getElem?_toArray, List.getElem?_cons_succ, List.getElem?_cons_zero]; rfl) (by kernel_rfl) (by kernel_rfl) (by kernel_rfl) (by exact fun _ _ _ h => h) (Or.inl ⟨by rfl, ?_⟩) (by assumption) ?_
          rotate_left
          · (intro w hSw; (try dsimp only at hSw); go_simp; try with_reducible rfl)
          try simp only [Act.put, List.setIfInBounds_toArray, List.set_cons_zero, List.set_cons_succ]
          refine wpAnyH_take (i := 9) (oi := _) (v := ?_) (by simp only [List.getElem?_toArray, List.getElem?_cons_succ, List.getElem?_cons_zero]; rfl) (by kernel_rfl) (by kernel_rfl) (by kernel_rfl) (by exact fun _ _ _ h => h) (Or.inl ⟨by rfl, ?_⟩) (by assumption) ?_
          rotate_left
          · (intro w hSw; (try dsimp only at hSw); go_simp; try with_reducible rfl)
          try simp only [Act.put, List.setIfInBounds_toArray, List.set_cons_zero, List.set_cons_succ]
          refine wpAnyH_take (i := 10) (oi := _) (v := ?_) (by simp only [List.getElem?_toArray, List.getElem?_cons_succ, List.getElem?_cons_zero]; rfl) (by kernel_rfl) (by kernel_rfl) (by kernel_rfl) (by exact fun _ _ _ h => h) (Or.inl ⟨by rfl, ?_⟩) (by assumption) ?_
          rotate_left
          · (intro w hSw; (try dsimp only at hSw); go_simp; try with_reducible rfl)
          try simp only [Act.put, List.setIfInBounds_toArray, List.set_cons_zero, List.set_cons_succ]
          refine wpAnyH_take (i := 11) (oi := _) (v := ?_) (by simp only [List.getElem?_toArray, List.getElem?_cons_succ, List.getElem?_cons_zero]; rfl) (by kernel_rfl) (by kernel_rfl) (by kernel_rfl) (by exact fun _ _ _ h => h) (Or.inl ⟨by rfl, ?_⟩) (by assumption) ?_
          rotate_left
          · (intro w hSw; (try dsimp only at hSw); go_simp; try with_reducible rfl)
          try simp only [Act.put, List.setIfInBounds_toArray, List.set_cons_zero, List.set_cons_succ]
          refine wpAnyH_take (i := 12) (oi := _) (v := ?_) (by simp only [List.getElem?_toArray, List.getElem?_cons_succ, List.getElem?_cons_zero]; rfl) (by kernel_rfl) (by kernel_rfl) (by kernel_rfl) (by exact fun _ _ _ h => h) (Or.inl ⟨by rfl, ?_⟩) (by assumption) ?_
          rotate_left
          · (intro w hSw; (try dsimp only at hSw); go_simp; try with_reducible rfl)
          try simp only [Act.put, List.setIfInBounds_toArray, List.set_cons_zero, List.set_cons_succ]
          refine wpAnyH_take (i := 13) (oi := _) (v := ?_) (by simp only [List.getElem?_toArray, List.getElem?_cons_succ, List.getElem?_cons_zero]; rfl) (by kernel_rfl) (by kernel_rfl) (by kernel_rfl) (by exact fun _ _ _ h => h) (Or.inl ⟨by rfl, ?_⟩) (by assumption) ?_
          rotate_left
          · (intro w hSw; (try dsimp only at hSw); go_simp; try with_reducible rfl)
          try simp only [Act.put, List.setIfInBounds_toArray, List.set_cons_zero, List.set_cons_succ]
          refine wpAnyH_take (i := 14) (oi := _) (v := ?_) (by simp only [List.getElem?_toArray, List.getElem?_cons_succ, List.getElem?_cons_zero]; rfl) (by kernel_rfl) (by kernel_rfl) (by kernel_rfl) (by exact fun _ _ _ h => h) (Or.inl ⟨by rfl, ?_⟩) (by assumption) ?_
          rotate_left
          · (intro w hSw; (try dsimp only at hSw); go_simp; try with_reducible rfl)
          try simp only [Act.put, List.setIfInBounds_toArray, List.set_cons_zero, List.set_cons_succ]
          refine wpAnyH_take (i := 15) (oi := _) (v := ?_) (by simp only [List.getElem?_toArray, List.getElem?_cons_succ, List.getElem?_cons_zero]; rfl) (by kernel_rfl) (by kernel_rfl) (by kernel_rfl) (by exact fun _ _ _ h => h) (Or.inl ⟨by rfl, ?_⟩) (by assumption) ?_
          rotate_left
          · (intro w hSw; (try dsimp only at hSw); go_simp; try with_reducible rfl)
          try simp only [Act.put, List.setIfInBounds_toArray, List.set_cons_zero, List.set_cons_succ]
          refine wpAnyH_take (i := 16) (oi := _) (v := ?_) (by simp only [List.getElem?_toArray, List.getElem?_cons_succ, List.getElem?_cons_zero]; rfl) (by kernel_rfl) (by kernel_rfl) (by kernel_rfl) (by exact fun _ _ _ h => h) (Or.inl ⟨by rfl, ?_⟩) (by assumption) ?_
          rotate_left
          · (intro w hSw; (try dsimp only at hSw); go_simp; try with_reducible rfl)
          try simp only [Act.put, List.setIfInBounds_toArray, List.set_cons_zero, List.set_cons_succ]
          refine wpAnyH_ready (rs := [17]) (by kernel_rfl) (by simp) ?_
          refine AllReadyH.cons rfl (fun K hK => ?_) AllReadyH.nil
          go_simp
          refine (goodPC_is H2.out (by have := GL.out.2.2; omega)).mono ?_
          rintro e w4 ⟨rfl, hb4⟩
          have B4 := Lib.hid hb4
          clear hb4
          go_wp2_with fail
          refine hK.out _ _ (CF.out _ (down_call (down_drew (Below.refl _ _)) B4.out)) (fun hH2 => ?_)
          clear hK K hH1
          try simp only [Act.put, List.setIfInBounds_toArray, List.set_cons_zero, List.set_cons_succ]
          refine wpAnyH_take (i := 18) (oi := _) (v := ?_) (by simp only [List.getElem?_toArray, List.getElem?_cons_succ, List.getElem?_cons_zero]; rfl) (by kernel_rfl) (by kernel_rfl) (by kernel_rfl) (by exact fun _ _ _ h => h) (Or.inl ⟨by rfl, ?_⟩) (by assumption) ?_
          rotate_left
          · (intro w hSw; (try dsimp only at hSw); go_simp; try with_reducible rfl)
          try simp only [Act.put, List.setIfInBounds_toArray, List.set_cons_zero, List.set_cons_succ]
          refine wpAnyH_take (i := 19) (oi := _) (v := ?_) (by simp only [List.getElem?_toArray, List.getElem?_cons_succ, List.getElem?_cons_zero]; rfl) (by kernel_rfl) (by kernel_rfl) (by kernel_rfl) (by exact fun _ _ _ h => h) (Or.inl ⟨by rfl, ?_⟩) (by assumption) ?_
          rotate_left
          · (intro w hSw; (try dsimp only at hSw); go_simp; try with_reducible rfl)
          try simp only [Act.put, List.setIfInBounds_toArray, List.set_cons_zero, List.set_cons_succ]
          refine wpAnyH_done (by kernel_rfl) ?_ _
          go_wp2_with fail
          go_ret
          exact ⟨ret_bool E.out, down_call (down_drew BZ.out) B4.out⟩
        · have H2 := Lib.hid h2
          clear h1 h2 hF0 hF1 hg n0 n1 n2 f0 q0
          go_wp2_with fail
          clear hWF
          refine wp_region_held_drew (S := fun w' => w'.cell? ⟨wr.heap.size, 0, none⟩ = some (.int .i64 (j : Int)) ∧ w'.cell? ⟨wr.heap.size, 1, none⟩ = some (.int .i64 PC) ∧ w'.cell? ⟨wr.heap.size, 2, none⟩ = some (.int .i64 Q) ∧ w'.cell? ⟨w.heap.size, 0, none⟩ = some (.slice (some ⟨nb, no, none⟩) fs.length c4) ∧ w'.cell? ⟨w.heap.size + 1, 4, none⟩ = some (.slice a1 st.length c1) ∧ w'.cell? ⟨nb, no + j * 3, none⟩ = some (.int .i64 gl) ∧ w'.cell? ⟨nb, no + j * 3 + 1, none⟩ = some (.int .i64 gf) ∧ w'.cell? ⟨nb, no + j * 3 + 2, none⟩ = some (.slice ga gc.length gcap)) (by kernel_rfl) (CF.out _ (down_drew (Below.refl _ _))) (fun hH0 => ?_)
          refine wpAnyH_take (i := 0) (oi := _) (v := ?_) (by simp only [List.getElem?_toArray, List.getElem?_cons_succ, List.getElem?_cons_zero]; rfl) (by kernel_rfl) (by kernel_rfl) (by kernel_rfl) (by exact fun _ _ _ h => h) (Or.inl ⟨by rfl, ?_⟩) (by assumption) ?_
          rotate_left
          · (intro w hSw; (try dsimp only at hSw); go_simp; try with_reducible rfl)
          try simp only [Act.put, List.setIfInBounds_toArray, List.set_cons_zero, List.set_cons_succ]
          refine wpAnyH_take (i := 1) (oi := _) (v := ?_) (by simp only [List.getElem?_toArray, List.getElem?_cons_succ, List.getElem?_cons_zero]; rfl) (by kernel_rfl) (by kernel_rfl) (by kernel_rfl) (by exact fun _ _ _ h => h) (Or.inl ⟨by rfl, ?_⟩) (by assumption) ?_
          rotate_left
          · (intro w hSw; (try dsimp only at hSw); go_simp; try with_reducible rfl)
          try simp only [Act.put, List.setIfInBounds_toArray, List.set_cons_zero, List.set_cons_succ]
          refine wpAnyH_take (i := 2) (oi := _) (v := ?_) (by simp only [List.getElem?_toArray, List.getElem?_cons_succ, List.getElem?_cons_zero]; rfl) (by kernel_rfl) (by kernel_rfl) (by kernel_rfl) (by exact fun _ _ _ h => h) (Or.inl ⟨by rfl, ?_⟩) (by assumption) ?_
          rotate_left
          · (intro w hSw; (try dsimp only at hSw); go_simp; try with_reducible rfl)
          try simp only [Act.put, List.setIfInBounds_toArray, List.set_cons_zero, List.set_cons_succ]
          refine wpAnyH_take (i := 3) (oi := _) (v := ?_) (by simp only [List.getElem?_toArray, List.getElem?_cons_succ, List.getElem?_cons_zero]; rfl) (by kernel_rfl) (by kernel_rfl) (by kernel_rfl) (by exact fun _ _ _ h => h) (Or.inl ⟨by rfl, ?_⟩) (by assumption) ?_
          rotate_left
          · (intro w hSw; (try dsimp only at hSw); go_simp; try with_reducible rfl)
          try simp only [Act.put, List.setIfInBounds_toArray, List.set_cons_zero, List.set_cons_succ]
          refine wpAnyH_take (i := 4) (oi := _) (v := ?_) (by simp only [List.getElem?_toArray, List.getElem?_cons_succ, List.getElem?_cons_zero]; rfl) (by kernel_rfl) (by kernel_rfl) (by kernel_rfl) (by exact fun _ _ _ h => h) (Or.inl ⟨by rfl, ?_⟩) (by assumption) ?_
          rotate_left
          · (intro w hSw; (try dsimp only at hSw); go_simp; try with_reducible rfl)
          try simp only [Act.put, List.setIfInBounds_toArray, List.set_cons_zero, List.set_cons_succ]
          refine wpAnyH_take (i := 5) (oi := _) (v := ?_) (by simp only [List.getElem?_toArray, List.getElem?_cons_succ, List.getElem?_cons_zero]; rfl) (by kernel_rfl) (by kernel_rfl) (by kernel_rfl) (by exact fun _ _ _ h => h) (Or.inl ⟨by rfl, ?_⟩) (by assumption) ?_
          rotate_left
          · (intro w hSw; (try dsimp only at hSw); go_simp; try with_reducible rfl)
          try simp only [Act.put, List.setIfInBounds_toArray, List.set_cons_zero, List.set_cons_succ]
          refine wpAnyH_ready (rs := [6]) (by kernel_rfl) (by simp) ?_
          refine AllReadyH.cons rfl (fun K hK => ?_) AllReadyH.nil
          go_simp
          refine (within_is H1.out _).mono ?_
          rintro e w3 ⟨rfl, rfl⟩
          go_wp2_with fail
          refine hK.out _ _ (CF.out _ (down_drew (Below.refl _ _))) (fun hH1 => ?_)
          clear hK K hH0
          try simp only [Act.put, List.setIfInBounds_toArray, List.set_cons_zero, List.set_cons_succ]
          refine wpAnyH_take (i := 7) (oi := _) (v := ?_) (by simp only [List.getElem?_toArray, List.getElem?_cons_succ, List.getElem?_cons_zero]; rfl) (by kernel_rfl) (by kernel_rfl) (by kernel_rfl) (by exact fun _ _ _ h => h) (Or.inl ⟨by rfl, ?_⟩) (by assumption) ?_
          rotate_left
          · (intro w hSw; (try dsimp only at hSw); go_simp; try with_reducible rfl)
          try simp only [Act.put, List.setIfInBounds_toArray, List.set_cons_zero, List.set_cons_succ]
          refine wpAnyH_take (i := 8) (oi := _) (v := ?_) (by simp only [List.getElem?_toArray, List.getElem?_cons_succ, List.getElem?_cons_zero]; rfl) (by kernel_rfl) (by kernel_rfl) (by kernel_rfl) (by exact fun _ _ _ h => h) (Or.inl ⟨by rfl, ?_⟩) (by assumption) ?_
          rotate_left
          · (intro w hSw; (try dsimp only at hSw); go_simp; try with_reducible rfl)
          try simp only [Act.put, List.setIfInBounds_toArray, List.set_cons_zero, List.set_cons_succ]
          refine wpAnyH_take (i := 9) (oi := _) (v := ?_) (by simp only [List.getElem?_toArray, List.getElem?_cons_succ, List.getElem?_cons_zero]; rfl) (by kernel_rfl) (by kernel_rfl) (by kernel_rfl) (by exact fun _ _ _ h => h) (Or.inl ⟨by rfl, ?_⟩) (by assumption) ?_
          rotate_left
          · (intro w hSw; (try dsimp only at hSw); go_simp; try with_reducible rfl)
          try simp only [Act.put, List.setIfInBounds_toArray, List.set_cons_zero, List.set_cons_succ]
          refine wpAnyH_take (i := 10) (oi := _) (v := ?_) (by simp only [List.getElem?_toArray, List.getElem?_cons_succ, List.getElem?_cons_zero]; rfl) (by kernel_rfl) (by kernel_rfl) (by kernel_rfl) (by exact fun _ _ _ h => h) (Or.inl ⟨by rfl, ?_⟩) (by assumption) ?_
          rotate_left
          · (intro w hSw; (try dsimp only at hSw); go_simp; try with_reducible rfl)
          try simp only [Act.put, List.setIfInBounds_toArray, List.set_cons_zero, List.set_cons_succ]
          refine wpAnyH_take (i := 11) (oi := _) (v := ?_) (by simp only [List.getElem?_toArray, List.getElem?_cons_succ, List.getElem?_cons_zero]; rfl) (by kernel_rfl) (by kernel_rfl) (by kernel_rfl) (by exact fun _ _ _ h => h) (Or.inl ⟨by rfl, ?_⟩) (by assumption) ?_
          rotate_left
          · (intro w hSw; (try dsimp only at hSw); go_simp; try with_reducible rfl)
          try simp only [Act.put, List.setIfInBounds_toArray, List.set_cons_zero, List.set_cons_succ]
          refine wpAnyH_take (i := 12) (oi := _) (v := ?_) (by simp only [List.getElem?_toArray, List.getElem?_cons_succ, List.getElem?_cons_zero]; rfl) (by kernel_rfl) (by kernel_rfl) (by kernel_rfl) (by exact fun _ _ _ h => h) (Or.inl ⟨by rfl, ?_⟩) (by assumption) ?_
          rotate_left
          · (intro w hSw; (try dsimp only at hSw); go_simp; try with_reducible rfl)
          try simp only [Act.put, List.setIfInBounds_toArray, List.set_cons_zero, List.set_cons_succ]
          refine wpAnyH_take (i := 13) (oi := _) (v := ?_) (by simp only [List.getElem?_toArray, List.getElem?_cons_succ, List.getElem?_cons_zero]; rfl) (by kernel_rfl) (by kernel_rfl) (by kernel_rfl) (by exact fun _ _ _ h => h) (Or.inl ⟨by rfl, ?_⟩) (by assumption) ?_
          rotate_left
          · (intro w hSw; (try dsimp only at hSw); go_simp; try with_reducible rfl)
          try simp only [Act.put, List.setIfInBounds_toArray, List.set_cons_zero, List.set_cons_succ]
          refine wpAnyH_take (i := 14) (oi := _) (v := ?_) (by simp only [List.getElem?_toArray, List.getElem?_cons_succ, List.getElem?_cons_zero]; rfl) (by kernel_rfl) (by kernel_rfl) (by kernel_rfl) (by exact fun _ _ _ h => h) (Or.inl ⟨by rfl, ?_⟩) (by assumption) ?_
          rotate_left
          · (intro w hSw; (try dsimp only at hSw); go_simp; try with_reducible rfl)
          try simp only [Act.put, List.setIfInBounds_toArray, List.set_cons_zero, List.set_cons_succ]
          refine wpAnyH_take (i := 15) (oi := _) (v := ?_) (by simp only [List.getElem?_toArray, List.getElem?_cons_succ, List.getElem?_cons_zero]; rfl) (by kernel_rfl) (by kernel_rfl) (by kernel_rfl) (by exact fun _ _ _ h => h) (Or.inl ⟨by rfl, ?_⟩) (by assumption) ?_
          rotate_left
          · (intro w hSw; (try dsimp only at hSw); go_simp; try with_reducible rfl)
          try simp only [Act.put, List.setIfInBounds_toArray, List.set_cons_zero, List.set_cons_succ]
          refine wpAnyH_take (i := 16) (oi := _) (v := ?_) (by simp only [List.getElem?_toArray, List.getElem?_cons_succ, List.getElem?_cons_zero]; rfl) (by kernel_rfl) (by kernel_rfl) (by kernel_rfl) (by exact fun _ _ _ h => h) (Or.inl ⟨by rfl, ?_⟩) (by assumption) ?_
          rotate_left
          · (intro w hSw; (try dsimp only at hSw); go_simp; try with_reducible rfl)
          try simp only [Act.put, List.setIfInBounds_toArray, List.set_cons_zero, List.set_cons_succ]
          refine wpAnyH_ready (rs := [17]) (by kernel_rfl) (by simp) ?_
          refine AllReadyH.cons rfl (fun K hK => ?_) AllReadyH.nil
          go_simp
          refine (goodPC_is H2.out (by have := GL.out.2.2; omega)).mono ?_
          rintro e w4 ⟨rfl, hb4⟩
          have B4 := Lib.hid hb4
          clear hb4
          go_wp2_with fail
          refine hK.out _ _ (CF.out _ (down_call (down_drew (Below.refl _ _)) B4.out)) (fun hH2 => ?_)
          clear hK K hH1
          try simp only [Act.put, List.setIfInBounds_toArray, List.set_cons_zero, List.set_cons_succ]
          refine wpAnyH_take (i := 18) (oi := _) (v := ?_) (by simp only [List.getElem?_toArray, List.getElem?_cons_succ, List.getElem?_cons_zero]; rfl) (by kernel_rfl) (by kernel_rfl) (by kernel_rfl) (by exact fun _ _ _ h => h) (Or.inl ⟨by rfl, ?_⟩) (by assumption) ?_
          rotate_left
          · (intro w hSw; (try dsimp only at hSw); go_simp; try with_reducible rfl)
          try simp only [Act.put, List.setIfInBounds_toArray, List.set_cons_zero, List.set_cons_succ]
          refine wpAnyH_take (i := 19) (oi := _) (v := ?_) (by simp only [List.getElem?_toArray, List.getElem?_cons_succ, List.getElem?_cons_zero]; rfl) (by kernel_rfl) (by kernel_rfl) (by kernel_rfl) (by exact fun _ _ _ h => h) (Or.inl ⟨by rfl, ?_⟩) (by assumption) ?_
          rotate_left
          · (intro w hSw; (try dsimp only at hSw); go_simp; try with_reducible rfl)
          try simp only [Act.put, List.setIfInBounds_toArray, List.set_cons_zero, List.set_cons_succ]
          refine wpAnyH_done (by kernel_rfl) ?_ _
          obtain ⟨y0, y1, y2, y3, y4, y5, y6, y7⟩ := CF.out w4 (down_call (down_drew (Below.refl _ _)) B4.out)
          have D4 := Lib.hid (down_call (down_drew BZ.out) B4.out)
          have D5 := Lib.hid (down_call (down_drew (Below.refl _ _)) B4.out)
          have hlw : nb < WF.heap.size := hnb
          have W2 := Lib.hid (show wrap64 ((st.length : Int) - gl) = (st.length : Int) - gl by have := GL.out; have := N1.out; unfold wrap64; omega)
          cases h3 : inF Q L ((st.length : Int) - gl)
          · have H3 := Lib.hid h3
            have H4 := Lib.hid (show inF Q L (wrap64 ((st.length : Int) - gl)) = false by rw [W2.out]; exact h3)
            have E : Hid (false = b) := Lib.hid (by rw [← HD2.out, H2.out, h3, Bool.true_and, Bool.false_and])
            clear h3
            go_wp2_with fail
            refine (within_is H4.out _).mono ?_
            rintro e w5 ⟨rfl, rfl⟩
            go_wp2_with fail
            go_ret
            exact ⟨ret_bool E.out, D4.out⟩
          · have H3 := Lib.hid h3
            have H4 := Lib.hid (show inF Q L (wrap64 ((st.length : Int) - gl)) = true by rw [W2.out]; exact h3)
            have W3 := Lib.hid (show wrap64 (Q + gl) = Q + gl by have := GL.out; have := N1.out; have := inF_iff.1 h3; have := HL.out; unfold wrap64; omega)
            have E : Hid (frG fs st.length (Q + gl) (fr.drop (k + 1)) = b) := Lib.hid (by rw [← HD2.out, H2.out, h3, Bool.true_and, Bool.true_and])
            have HL2 : Hid (0 ≤ Q + gl) := Lib.hid (by have := GL.out; have := inF_iff.1 h3; have := HL.out; omega)
            clear h3
            go_wp2_with fail
            refine (within_is H4.out _).mono ?_
            rintro e w5 ⟨rfl, rfl⟩
            go_wp2_with fail
            go_roundw
            case rel =>
              refine ⟨k + 1, Q + gl, by omega, by go_num, ?_, E, HL2, Lib.hid (down_call HW.out (down_call BF.out D5.out))⟩
              first
                | rfl
                | rw [W3.out]
            case measure => simp [intOf]; omega
    · obtain rfl : k = fr.length := by omega
      have E : Hid (true = b) := Lib.hid (by
        have h := HR.out
        rw [List.drop_length] at h
        exact h)
      go_wp2_with fail
      go_ret
      exact ⟨ret_bool E.out, down_call BW.out HW.out⟩
end Go.Proofs.YtajkkinolpkfmaaGreatDoor

/-
  Package frame: goodHandlers of a machine without handlers.
  Conditions: as each states.
-/
namespace Go.Proofs.YtajkkinolpkfmaaGreatDoor
set_option linter.unusedVariables false
set_option linter.unusedSimpArgs false
open Go.ChangeShapes Go.WideShapes Go.ChangeAt Go.RowKit
set_option maxRecDepth 100000

theorem goodHandlers_none {w : World} {p1 p2 p3 a1 a2 a3 : Option Addr} {n1 n2 n3 e1 e2 e3 m1 m2 c1 c2 c3 : Nat} {z0 z1 z2 z3 sta res cod : Int} :
    Calls Tryz.prog 48 #[.agg #[.slice p1 n1 e1, .slice p2 n2 e2, .slice p3 n3 e3], maV z0 z1 z2 z3 (.slice a1 m1 c1) (.slice a2 m2 c2) (.slice a3 0 c3) sta res cod] w fun e w' => e = .returned (.bool true) ∧ Below w.heap.size w w' := by
  go_enter Tryz.func48, Tryz.ntmps48
  go_wp2_with fail
  go_rounds 1
  go_ret
  exact ⟨rfl, down_alloc (down_alloc (Below.refl _ _) _) _⟩

end Go.Proofs.YtajkkinolpkfmaaGreatDoor

/-
  Package frame: whether a machine's State may be.
  Conditions: as each states.
-/
namespace Go.Proofs.YtajkkinolpkfmaaGreatDoor
set_option linter.unusedVariables false
set_option linter.unusedSimpArgs false
open Go.ChangeShapes Go.WideShapes Go.ChangeAt Go.RowKit
set_option maxRecDepth 100000


/-! ## State -/
def stG (M : PMa) : Bool := inF M.state 0 8 && (!((decide (M.res ≠ 1) && decide (M.state ≠ 2)) || (decide (M.code ≠ 0) && decide (M.state ≠ 3))) && (decide (0 < M.fr.length) || (decide (M.state = 2) || (decide (M.state = 3) || decide (M.state = 8)))))
theorem intF_0 (w : World) : Calls Tryz.prog 42 #[.int .i64 0] w fun e w' => e = .returned (.int .u64 1) ∧ w' = w := (int_any 0 w).mono fun e w' h => ⟨h.1, h.2.symm⟩

set_option maxHeartbeats 4000000 in
theorem goodState_no {w : World} {a1 a2 a3 : Option Addr} {c1 c2 c3 : Nat} {z0 z1 z2 z3 : Int} {st : List Int} {fr : List PFr} {hd : List PHd} {sta res cod : Int} (h : inF sta 0 8 = false) :
    Calls Tryz.prog 49 #[maV z0 z1 z2 z3 (.slice a1 st.length c1) (.slice a2 fr.length c2) (.slice a3 hd.length c3) sta res cod] w fun e w' => e = .returned (.bool (stG ⟨z0, z1, z2, z3, st, fr, hd, sta, res, cod⟩)) ∧ Below w.heap.size w w' := by
  have b0 : ∀ o q, Hid (Below w.heap.size w ((w.alloc o).drewN q)) := fun o q => Lib.hid (down_drewN (down_alloc (Below.refl _ _) _) _)
  have HB := Lib.hid h
  have E := Lib.hid (show false = stG ⟨z0, z1, z2, z3, st, fr, hd, sta, res, cod⟩ by simp [stG, h])
  clear h
  go_enter Tryz.func49, Tryz.ntmps49
  go_wp2_with fail
  refine (within_is HB.out _).mono ?_
  rintro e w' ⟨rfl, rfl⟩
  go_wp2_with fail
  go_ret
  exact ⟨ret_bool E.out, (b0 _ 0).out⟩

set_option maxHeartbeats 4000000 in
theorem goodState_yes {w : World} {a1 a2 a3 : Option Addr} {c1 c2 c3 : Nat} {z0 z1 z2 z3 : Int} {st : List Int} {fr : List PFr} {hd : List PHd} {sta res cod : Int} (h : inF sta 0 8 = true) :
    Calls Tryz.prog 49 #[maV z0 z1 z2 z3 (.slice a1 st.length c1) (.slice a2 fr.length c2) (.slice a3 hd.length c3) sta res cod] w fun e w' => e = .returned (.bool (stG ⟨z0, z1, z2, z3, st, fr, hd, sta, res, cod⟩)) ∧ Below w.heap.size w w' := by
  have b0 : ∀ o q, Hid (Below w.heap.size w ((w.alloc o).drewN q)) := fun o q => Lib.hid (down_drewN (down_alloc (Below.refl _ _) _) _)
  have HB := Lib.hid h

  by_cases s2 : sta = 2
  · subst s2
    by_cases r : res = 1
    · subst r
      by_cases c : cod = 0
      · subst c
        by_cases f : fr.length = 0
        · skip
          have E := Lib.hid (show true = stG _ from (by (simp [stG, h, f] <;> omega) : true = stG ⟨z0, z1, z2, z3, st, fr, hd, 2, 1, 0⟩))
          have f' : decide (0 < fr.length) = false := decide_eq_false (by omega)
          clear h f
          go_enter Tryz.func49, Tryz.ntmps49
          go_wp2_with fail
          refine (within_is HB.out _).mono ?_
          rintro e w' ⟨rfl, rfl⟩
          go_wp2_with fail
          go_quiet (fail)
          rename_i nq
          have BX := Lib.hid (show Below w.heap.size w ((w.alloc (.cells #[.int .i64 z0, .int .i64 z1, .int .i64 z2, .int .i64 z3, .slice a1 st.length c1, .slice a2 fr.length c2, .slice a3 hd.length c3, .int .i64 2, .int .u64 1, .int .i64 0] 45)).drewN nq) from down_drewN (down_alloc (Below.refl _ _) _) _)
          have RX := Lib.hid (show rowAt ((w.alloc (.cells #[.int .i64 z0, .int .i64 z1, .int .i64 z2, .int .i64 z3, .slice a1 st.length c1, .slice a2 fr.length c2, .slice a3 hd.length c3, .int .i64 2, .int .u64 1, .int .i64 0] 45)).drewN nq) w.heap.size 45 [.int .i64 z0, .int .i64 z1, .int .i64 z2, .int .i64 z3, .slice a1 st.length c1, .slice a2 fr.length c2, .slice a3 hd.length c3, .int .i64 2, .int .u64 1, .int .i64 0] from rowAt.made _ _ _)
          obtain ⟨X, hX⟩ : ∃ X, (w.alloc (.cells #[.int .i64 z0, .int .i64 z1, .int .i64 z2, .int .i64 z3, .slice a1 st.length c1, .slice a2 fr.length c2, .slice a3 hd.length c3, .int .i64 2, .int .u64 1, .int .i64 0] 45)).drewN nq = X := ⟨_, rfl⟩
          rw [hX] at BX RX ⊢
          clear hX
          obtain ⟨d0, d1, d2, d3, d4, d5, d6, d7, d8, d9⟩ := cells10 RX.out
          go_wp2_with fail
          go_quiet ((go_at_call 42; refine Calls.quiet_of_same ((intF_0 _).mono fun e w' h => h)))
          go_wp2_with fail
          go_ret
          exact ⟨ret_bool E.out, down_drewN BX.out _⟩
        · skip
          have E := Lib.hid (show true = stG _ from (by (simp [stG, h, f] <;> omega) : true = stG ⟨z0, z1, z2, z3, st, fr, hd, 2, 1, 0⟩))
          have f' : 0 < fr.length := by omega
          clear h f
          go_enter Tryz.func49, Tryz.ntmps49
          go_wp2_with fail
          refine (within_is HB.out _).mono ?_
          rintro e w' ⟨rfl, rfl⟩
          go_wp2_with fail
          go_quiet (fail)
          rename_i nq
          have BX := Lib.hid (show Below w.heap.size w ((w.alloc (.cells #[.int .i64 z0, .int .i64 z1, .int .i64 z2, .int .i64 z3, .slice a1 st.length c1, .slice a2 fr.length c2, .slice a3 hd.length c3, .int .i64 2, .int .u64 1, .int .i64 0] 45)).drewN nq) from down_drewN (down_alloc (Below.refl _ _) _) _)
          have RX := Lib.hid (show rowAt ((w.alloc (.cells #[.int .i64 z0, .int .i64 z1, .int .i64 z2, .int .i64 z3, .slice a1 st.length c1, .slice a2 fr.length c2, .slice a3 hd.length c3, .int .i64 2, .int .u64 1, .int .i64 0] 45)).drewN nq) w.heap.size 45 [.int .i64 z0, .int .i64 z1, .int .i64 z2, .int .i64 z3, .slice a1 st.length c1, .slice a2 fr.length c2, .slice a3 hd.length c3, .int .i64 2, .int .u64 1, .int .i64 0] from rowAt.made _ _ _)
          obtain ⟨X, hX⟩ : ∃ X, (w.alloc (.cells #[.int .i64 z0, .int .i64 z1, .int .i64 z2, .int .i64 z3, .slice a1 st.length c1, .slice a2 fr.length c2, .slice a3 hd.length c3, .int .i64 2, .int .u64 1, .int .i64 0] 45)).drewN nq = X := ⟨_, rfl⟩
          rw [hX] at BX RX ⊢
          clear hX
          obtain ⟨d0, d1, d2, d3, d4, d5, d6, d7, d8, d9⟩ := cells10 RX.out
          go_wp2_with fail
          go_quiet ((go_at_call 42; refine Calls.quiet_of_same ((intF_0 _).mono fun e w' h => h)))
          go_wp2_with fail
          go_ret
          exact ⟨ret_bool E.out, down_drewN BX.out _⟩
      · skip
        by_cases f : fr.length = 0
        · skip
          have E := Lib.hid (show false = stG _ from (by (simp [stG, h, c, f] <;> omega) : false = stG ⟨z0, z1, z2, z3, st, fr, hd, 2, 1, cod⟩))
          have c' : (cod != 0) = true := by simpa using c
          have f' : decide (0 < fr.length) = false := decide_eq_false (by omega)
          clear h c f
          go_enter Tryz.func49, Tryz.ntmps49
          go_wp2_with fail
          refine (within_is HB.out _).mono ?_
          rintro e w' ⟨rfl, rfl⟩
          go_wp2_with fail
          go_quiet (fail)
          rename_i nq
          have BX := Lib.hid (show Below w.heap.size w ((w.alloc (.cells #[.int .i64 z0, .int .i64 z1, .int .i64 z2, .int .i64 z3, .slice a1 st.length c1, .slice a2 fr.length c2, .slice a3 hd.length c3, .int .i64 2, .int .u64 1, .int .i64 cod] 45)).drewN nq) from down_drewN (down_alloc (Below.refl _ _) _) _)
          have RX := Lib.hid (show rowAt ((w.alloc (.cells #[.int .i64 z0, .int .i64 z1, .int .i64 z2, .int .i64 z3, .slice a1 st.length c1, .slice a2 fr.length c2, .slice a3 hd.length c3, .int .i64 2, .int .u64 1, .int .i64 cod] 45)).drewN nq) w.heap.size 45 [.int .i64 z0, .int .i64 z1, .int .i64 z2, .int .i64 z3, .slice a1 st.length c1, .slice a2 fr.length c2, .slice a3 hd.length c3, .int .i64 2, .int .u64 1, .int .i64 cod] from rowAt.made _ _ _)
          obtain ⟨X, hX⟩ : ∃ X, (w.alloc (.cells #[.int .i64 z0, .int .i64 z1, .int .i64 z2, .int .i64 z3, .slice a1 st.length c1, .slice a2 fr.length c2, .slice a3 hd.length c3, .int .i64 2, .int .u64 1, .int .i64 cod] 45)).drewN nq = X := ⟨_, rfl⟩
          rw [hX] at BX RX ⊢
          clear hX
          obtain ⟨d0, d1, d2, d3, d4, d5, d6, d7, d8, d9⟩ := cells10 RX.out
          go_wp2_with fail
          go_quiet ((go_at_call 42; refine Calls.quiet_of_same ((intF_0 _).mono fun e w' h => h)))
          go_wp2_with fail
          go_ret
          exact ⟨ret_bool E.out, down_drewN BX.out _⟩
        · skip
          have E := Lib.hid (show false = stG _ from (by (simp [stG, h, c, f] <;> omega) : false = stG ⟨z0, z1, z2, z3, st, fr, hd, 2, 1, cod⟩))
          have c' : (cod != 0) = true := by simpa using c
          have f' : 0 < fr.length := by omega
          clear h c f
          go_enter Tryz.func49, Tryz.ntmps49
          go_wp2_with fail
          refine (within_is HB.out _).mono ?_
          rintro e w' ⟨rfl, rfl⟩
          go_wp2_with fail
          go_quiet (fail)
          rename_i nq
          have BX := Lib.hid (show Below w.heap.size w ((w.alloc (.cells #[.int .i64 z0, .int .i64 z1, .int .i64 z2, .int .i64 z3, .slice a1 st.length c1, .slice a2 fr.length c2, .slice a3 hd.length c3, .int .i64 2, .int .u64 1, .int .i64 cod] 45)).drewN nq) from down_drewN (down_alloc (Below.refl _ _) _) _)
          have RX := Lib.hid (show rowAt ((w.alloc (.cells #[.int .i64 z0, .int .i64 z1, .int .i64 z2, .int .i64 z3, .slice a1 st.length c1, .slice a2 fr.length c2, .slice a3 hd.length c3, .int .i64 2, .int .u64 1, .int .i64 cod] 45)).drewN nq) w.heap.size 45 [.int .i64 z0, .int .i64 z1, .int .i64 z2, .int .i64 z3, .slice a1 st.length c1, .slice a2 fr.length c2, .slice a3 hd.length c3, .int .i64 2, .int .u64 1, .int .i64 cod] from rowAt.made _ _ _)
          obtain ⟨X, hX⟩ : ∃ X, (w.alloc (.cells #[.int .i64 z0, .int .i64 z1, .int .i64 z2, .int .i64 z3, .slice a1 st.length c1, .slice a2 fr.length c2, .slice a3 hd.length c3, .int .i64 2, .int .u64 1, .int .i64 cod] 45)).drewN nq = X := ⟨_, rfl⟩
          rw [hX] at BX RX ⊢
          clear hX
          obtain ⟨d0, d1, d2, d3, d4, d5, d6, d7, d8, d9⟩ := cells10 RX.out
          go_wp2_with fail
          go_quiet ((go_at_call 42; refine Calls.quiet_of_same ((intF_0 _).mono fun e w' h => h)))
          go_wp2_with fail
          go_ret
          exact ⟨ret_bool E.out, down_drewN BX.out _⟩
    · skip
      by_cases c : cod = 0
      · subst c
        by_cases f : fr.length = 0
        · skip
          have E := Lib.hid (show true = stG _ from (by (simp [stG, h, r, f] <;> omega) : true = stG ⟨z0, z1, z2, z3, st, fr, hd, 2, res, 0⟩))
          have r' : (res != 1) = true := by simpa using r
          have f' : decide (0 < fr.length) = false := decide_eq_false (by omega)
          clear h r f
          go_enter Tryz.func49, Tryz.ntmps49
          go_wp2_with fail
          refine (within_is HB.out _).mono ?_
          rintro e w' ⟨rfl, rfl⟩
          go_wp2_with fail
          go_quiet (fail)
          rename_i nq
          have BX := Lib.hid (show Below w.heap.size w ((w.alloc (.cells #[.int .i64 z0, .int .i64 z1, .int .i64 z2, .int .i64 z3, .slice a1 st.length c1, .slice a2 fr.length c2, .slice a3 hd.length c3, .int .i64 2, .int .u64 res, .int .i64 0] 45)).drewN nq) from down_drewN (down_alloc (Below.refl _ _) _) _)
          have RX := Lib.hid (show rowAt ((w.alloc (.cells #[.int .i64 z0, .int .i64 z1, .int .i64 z2, .int .i64 z3, .slice a1 st.length c1, .slice a2 fr.length c2, .slice a3 hd.length c3, .int .i64 2, .int .u64 res, .int .i64 0] 45)).drewN nq) w.heap.size 45 [.int .i64 z0, .int .i64 z1, .int .i64 z2, .int .i64 z3, .slice a1 st.length c1, .slice a2 fr.length c2, .slice a3 hd.length c3, .int .i64 2, .int .u64 res, .int .i64 0] from rowAt.made _ _ _)
          obtain ⟨X, hX⟩ : ∃ X, (w.alloc (.cells #[.int .i64 z0, .int .i64 z1, .int .i64 z2, .int .i64 z3, .slice a1 st.length c1, .slice a2 fr.length c2, .slice a3 hd.length c3, .int .i64 2, .int .u64 res, .int .i64 0] 45)).drewN nq = X := ⟨_, rfl⟩
          rw [hX] at BX RX ⊢
          clear hX
          obtain ⟨d0, d1, d2, d3, d4, d5, d6, d7, d8, d9⟩ := cells10 RX.out
          go_wp2_with fail
          go_quiet ((go_at_call 42; refine Calls.quiet_of_same ((intF_0 _).mono fun e w' h => h)))
          go_wp2_with fail
          go_ret
          exact ⟨ret_bool E.out, down_drewN BX.out _⟩
        · skip
          have E := Lib.hid (show true = stG _ from (by (simp [stG, h, r, f] <;> omega) : true = stG ⟨z0, z1, z2, z3, st, fr, hd, 2, res, 0⟩))
          have r' : (res != 1) = true := by simpa using r
          have f' : 0 < fr.length := by omega
          clear h r f
          go_enter Tryz.func49, Tryz.ntmps49
          go_wp2_with fail
          refine (within_is HB.out _).mono ?_
          rintro e w' ⟨rfl, rfl⟩
          go_wp2_with fail
          go_quiet (fail)
          rename_i nq
          have BX := Lib.hid (show Below w.heap.size w ((w.alloc (.cells #[.int .i64 z0, .int .i64 z1, .int .i64 z2, .int .i64 z3, .slice a1 st.length c1, .slice a2 fr.length c2, .slice a3 hd.length c3, .int .i64 2, .int .u64 res, .int .i64 0] 45)).drewN nq) from down_drewN (down_alloc (Below.refl _ _) _) _)
          have RX := Lib.hid (show rowAt ((w.alloc (.cells #[.int .i64 z0, .int .i64 z1, .int .i64 z2, .int .i64 z3, .slice a1 st.length c1, .slice a2 fr.length c2, .slice a3 hd.length c3, .int .i64 2, .int .u64 res, .int .i64 0] 45)).drewN nq) w.heap.size 45 [.int .i64 z0, .int .i64 z1, .int .i64 z2, .int .i64 z3, .slice a1 st.length c1, .slice a2 fr.length c2, .slice a3 hd.length c3, .int .i64 2, .int .u64 res, .int .i64 0] from rowAt.made _ _ _)
          obtain ⟨X, hX⟩ : ∃ X, (w.alloc (.cells #[.int .i64 z0, .int .i64 z1, .int .i64 z2, .int .i64 z3, .slice a1 st.length c1, .slice a2 fr.length c2, .slice a3 hd.length c3, .int .i64 2, .int .u64 res, .int .i64 0] 45)).drewN nq = X := ⟨_, rfl⟩
          rw [hX] at BX RX ⊢
          clear hX
          obtain ⟨d0, d1, d2, d3, d4, d5, d6, d7, d8, d9⟩ := cells10 RX.out
          go_wp2_with fail
          go_quiet ((go_at_call 42; refine Calls.quiet_of_same ((intF_0 _).mono fun e w' h => h)))
          go_wp2_with fail
          go_ret
          exact ⟨ret_bool E.out, down_drewN BX.out _⟩
      · skip
        by_cases f : fr.length = 0
        · skip
          have E := Lib.hid (show false = stG _ from (by (simp [stG, h, r, c, f] <;> omega) : false = stG ⟨z0, z1, z2, z3, st, fr, hd, 2, res, cod⟩))
          have r' : (res != 1) = true := by simpa using r
          have c' : (cod != 0) = true := by simpa using c
          have f' : decide (0 < fr.length) = false := decide_eq_false (by omega)
          clear h r c f
          go_enter Tryz.func49, Tryz.ntmps49
          go_wp2_with fail
          refine (within_is HB.out _).mono ?_
          rintro e w' ⟨rfl, rfl⟩
          go_wp2_with fail
          go_quiet (fail)
          rename_i nq
          have BX := Lib.hid (show Below w.heap.size w ((w.alloc (.cells #[.int .i64 z0, .int .i64 z1, .int .i64 z2, .int .i64 z3, .slice a1 st.length c1, .slice a2 fr.length c2, .slice a3 hd.length c3, .int .i64 2, .int .u64 res, .int .i64 cod] 45)).drewN nq) from down_drewN (down_alloc (Below.refl _ _) _) _)
          have RX := Lib.hid (show rowAt ((w.alloc (.cells #[.int .i64 z0, .int .i64 z1, .int .i64 z2, .int .i64 z3, .slice a1 st.length c1, .slice a2 fr.length c2, .slice a3 hd.length c3, .int .i64 2, .int .u64 res, .int .i64 cod] 45)).drewN nq) w.heap.size 45 [.int .i64 z0, .int .i64 z1, .int .i64 z2, .int .i64 z3, .slice a1 st.length c1, .slice a2 fr.length c2, .slice a3 hd.length c3, .int .i64 2, .int .u64 res, .int .i64 cod] from rowAt.made _ _ _)
          obtain ⟨X, hX⟩ : ∃ X, (w.alloc (.cells #[.int .i64 z0, .int .i64 z1, .int .i64 z2, .int .i64 z3, .slice a1 st.length c1, .slice a2 fr.length c2, .slice a3 hd.length c3, .int .i64 2, .int .u64 res, .int .i64 cod] 45)).drewN nq = X := ⟨_, rfl⟩
          rw [hX] at BX RX ⊢
          clear hX
          obtain ⟨d0, d1, d2, d3, d4, d5, d6, d7, d8, d9⟩ := cells10 RX.out
          go_wp2_with fail
          go_quiet ((go_at_call 42; refine Calls.quiet_of_same ((intF_0 _).mono fun e w' h => h)))
          go_wp2_with fail
          go_ret
          exact ⟨ret_bool E.out, down_drewN BX.out _⟩
        · skip
          have E := Lib.hid (show false = stG _ from (by (simp [stG, h, r, c, f] <;> omega) : false = stG ⟨z0, z1, z2, z3, st, fr, hd, 2, res, cod⟩))
          have r' : (res != 1) = true := by simpa using r
          have c' : (cod != 0) = true := by simpa using c
          have f' : 0 < fr.length := by omega
          clear h r c f
          go_enter Tryz.func49, Tryz.ntmps49
          go_wp2_with fail
          refine (within_is HB.out _).mono ?_
          rintro e w' ⟨rfl, rfl⟩
          go_wp2_with fail
          go_quiet (fail)
          rename_i nq
          have BX := Lib.hid (show Below w.heap.size w ((w.alloc (.cells #[.int .i64 z0, .int .i64 z1, .int .i64 z2, .int .i64 z3, .slice a1 st.length c1, .slice a2 fr.length c2, .slice a3 hd.length c3, .int .i64 2, .int .u64 res, .int .i64 cod] 45)).drewN nq) from down_drewN (down_alloc (Below.refl _ _) _) _)
          have RX := Lib.hid (show rowAt ((w.alloc (.cells #[.int .i64 z0, .int .i64 z1, .int .i64 z2, .int .i64 z3, .slice a1 st.length c1, .slice a2 fr.length c2, .slice a3 hd.length c3, .int .i64 2, .int .u64 res, .int .i64 cod] 45)).drewN nq) w.heap.size 45 [.int .i64 z0, .int .i64 z1, .int .i64 z2, .int .i64 z3, .slice a1 st.length c1, .slice a2 fr.length c2, .slice a3 hd.length c3, .int .i64 2, .int .u64 res, .int .i64 cod] from rowAt.made _ _ _)
          obtain ⟨X, hX⟩ : ∃ X, (w.alloc (.cells #[.int .i64 z0, .int .i64 z1, .int .i64 z2, .int .i64 z3, .slice a1 st.length c1, .slice a2 fr.length c2, .slice a3 hd.length c3, .int .i64 2, .int .u64 res, .int .i64 cod] 45)).drewN nq = X := ⟨_, rfl⟩
          rw [hX] at BX RX ⊢
          clear hX
          obtain ⟨d0, d1, d2, d3, d4, d5, d6, d7, d8, d9⟩ := cells10 RX.out
          go_wp2_with fail
          go_quiet ((go_at_call 42; refine Calls.quiet_of_same ((intF_0 _).mono fun e w' h => h)))
          go_wp2_with fail
          go_ret
          exact ⟨ret_bool E.out, down_drewN BX.out _⟩
  · by_cases s3 : sta = 3
    · subst s3
      by_cases r : res = 1
      · subst r
        by_cases c : cod = 0
        · subst c
          by_cases f : fr.length = 0
          · skip
            have E := Lib.hid (show true = stG _ from (by (simp [stG, h, f] <;> omega) : true = stG ⟨z0, z1, z2, z3, st, fr, hd, 3, 1, 0⟩))
            have f' : decide (0 < fr.length) = false := decide_eq_false (by omega)
            clear h f
            go_enter Tryz.func49, Tryz.ntmps49
            go_wp2_with fail
            refine (within_is HB.out _).mono ?_
            rintro e w' ⟨rfl, rfl⟩
            go_wp2_with fail
            go_quiet (fail)
            rename_i nq
            have BX := Lib.hid (show Below w.heap.size w ((w.alloc (.cells #[.int .i64 z0, .int .i64 z1, .int .i64 z2, .int .i64 z3, .slice a1 st.length c1, .slice a2 fr.length c2, .slice a3 hd.length c3, .int .i64 3, .int .u64 1, .int .i64 0] 45)).drewN nq) from down_drewN (down_alloc (Below.refl _ _) _) _)
            have RX := Lib.hid (show rowAt ((w.alloc (.cells #[.int .i64 z0, .int .i64 z1, .int .i64 z2, .int .i64 z3, .slice a1 st.length c1, .slice a2 fr.length c2, .slice a3 hd.length c3, .int .i64 3, .int .u64 1, .int .i64 0] 45)).drewN nq) w.heap.size 45 [.int .i64 z0, .int .i64 z1, .int .i64 z2, .int .i64 z3, .slice a1 st.length c1, .slice a2 fr.length c2, .slice a3 hd.length c3, .int .i64 3, .int .u64 1, .int .i64 0] from rowAt.made _ _ _)
            obtain ⟨X, hX⟩ : ∃ X, (w.alloc (.cells #[.int .i64 z0, .int .i64 z1, .int .i64 z2, .int .i64 z3, .slice a1 st.length c1, .slice a2 fr.length c2, .slice a3 hd.length c3, .int .i64 3, .int .u64 1, .int .i64 0] 45)).drewN nq = X := ⟨_, rfl⟩
            rw [hX] at BX RX ⊢
            clear hX
            obtain ⟨d0, d1, d2, d3, d4, d5, d6, d7, d8, d9⟩ := cells10 RX.out
            go_wp2_with fail
            go_quiet ((go_at_call 42; refine Calls.quiet_of_same ((intF_0 _).mono fun e w' h => h)))
            go_wp2_with fail
            go_ret
            exact ⟨ret_bool E.out, down_drewN BX.out _⟩
          · skip
            have E := Lib.hid (show true = stG _ from (by (simp [stG, h, f] <;> omega) : true = stG ⟨z0, z1, z2, z3, st, fr, hd, 3, 1, 0⟩))
            have f' : 0 < fr.length := by omega
            clear h f
            go_enter Tryz.func49, Tryz.ntmps49
            go_wp2_with fail
            refine (within_is HB.out _).mono ?_
            rintro e w' ⟨rfl, rfl⟩
            go_wp2_with fail
            go_quiet (fail)
            rename_i nq
            have BX := Lib.hid (show Below w.heap.size w ((w.alloc (.cells #[.int .i64 z0, .int .i64 z1, .int .i64 z2, .int .i64 z3, .slice a1 st.length c1, .slice a2 fr.length c2, .slice a3 hd.length c3, .int .i64 3, .int .u64 1, .int .i64 0] 45)).drewN nq) from down_drewN (down_alloc (Below.refl _ _) _) _)
            have RX := Lib.hid (show rowAt ((w.alloc (.cells #[.int .i64 z0, .int .i64 z1, .int .i64 z2, .int .i64 z3, .slice a1 st.length c1, .slice a2 fr.length c2, .slice a3 hd.length c3, .int .i64 3, .int .u64 1, .int .i64 0] 45)).drewN nq) w.heap.size 45 [.int .i64 z0, .int .i64 z1, .int .i64 z2, .int .i64 z3, .slice a1 st.length c1, .slice a2 fr.length c2, .slice a3 hd.length c3, .int .i64 3, .int .u64 1, .int .i64 0] from rowAt.made _ _ _)
            obtain ⟨X, hX⟩ : ∃ X, (w.alloc (.cells #[.int .i64 z0, .int .i64 z1, .int .i64 z2, .int .i64 z3, .slice a1 st.length c1, .slice a2 fr.length c2, .slice a3 hd.length c3, .int .i64 3, .int .u64 1, .int .i64 0] 45)).drewN nq = X := ⟨_, rfl⟩
            rw [hX] at BX RX ⊢
            clear hX
            obtain ⟨d0, d1, d2, d3, d4, d5, d6, d7, d8, d9⟩ := cells10 RX.out
            go_wp2_with fail
            go_quiet ((go_at_call 42; refine Calls.quiet_of_same ((intF_0 _).mono fun e w' h => h)))
            go_wp2_with fail
            go_ret
            exact ⟨ret_bool E.out, down_drewN BX.out _⟩
        · skip
          by_cases f : fr.length = 0
          · skip
            have E := Lib.hid (show true = stG _ from (by (simp [stG, h, c, f] <;> omega) : true = stG ⟨z0, z1, z2, z3, st, fr, hd, 3, 1, cod⟩))
            have c' : (cod != 0) = true := by simpa using c
            have f' : decide (0 < fr.length) = false := decide_eq_false (by omega)
            clear h c f
            go_enter Tryz.func49, Tryz.ntmps49
            go_wp2_with fail
            refine (within_is HB.out _).mono ?_
            rintro e w' ⟨rfl, rfl⟩
            go_wp2_with fail
            go_quiet (fail)
            rename_i nq
            have BX := Lib.hid (show Below w.heap.size w ((w.alloc (.cells #[.int .i64 z0, .int .i64 z1, .int .i64 z2, .int .i64 z3, .slice a1 st.length c1, .slice a2 fr.length c2, .slice a3 hd.length c3, .int .i64 3, .int .u64 1, .int .i64 cod] 45)).drewN nq) from down_drewN (down_alloc (Below.refl _ _) _) _)
            have RX := Lib.hid (show rowAt ((w.alloc (.cells #[.int .i64 z0, .int .i64 z1, .int .i64 z2, .int .i64 z3, .slice a1 st.length c1, .slice a2 fr.length c2, .slice a3 hd.length c3, .int .i64 3, .int .u64 1, .int .i64 cod] 45)).drewN nq) w.heap.size 45 [.int .i64 z0, .int .i64 z1, .int .i64 z2, .int .i64 z3, .slice a1 st.length c1, .slice a2 fr.length c2, .slice a3 hd.length c3, .int .i64 3, .int .u64 1, .int .i64 cod] from rowAt.made _ _ _)
            obtain ⟨X, hX⟩ : ∃ X, (w.alloc (.cells #[.int .i64 z0, .int .i64 z1, .int .i64 z2, .int .i64 z3, .slice a1 st.length c1, .slice a2 fr.length c2, .slice a3 hd.length c3, .int .i64 3, .int .u64 1, .int .i64 cod] 45)).drewN nq = X := ⟨_, rfl⟩
            rw [hX] at BX RX ⊢
            clear hX
            obtain ⟨d0, d1, d2, d3, d4, d5, d6, d7, d8, d9⟩ := cells10 RX.out
            go_wp2_with fail
            go_quiet ((go_at_call 42; refine Calls.quiet_of_same ((intF_0 _).mono fun e w' h => h)))
            go_wp2_with fail
            go_ret
            exact ⟨ret_bool E.out, down_drewN BX.out _⟩
          · skip
            have E := Lib.hid (show true = stG _ from (by (simp [stG, h, c, f] <;> omega) : true = stG ⟨z0, z1, z2, z3, st, fr, hd, 3, 1, cod⟩))
            have c' : (cod != 0) = true := by simpa using c
            have f' : 0 < fr.length := by omega
            clear h c f
            go_enter Tryz.func49, Tryz.ntmps49
            go_wp2_with fail
            refine (within_is HB.out _).mono ?_
            rintro e w' ⟨rfl, rfl⟩
            go_wp2_with fail
            go_quiet (fail)
            rename_i nq
            have BX := Lib.hid (show Below w.heap.size w ((w.alloc (.cells #[.int .i64 z0, .int .i64 z1, .int .i64 z2, .int .i64 z3, .slice a1 st.length c1, .slice a2 fr.length c2, .slice a3 hd.length c3, .int .i64 3, .int .u64 1, .int .i64 cod] 45)).drewN nq) from down_drewN (down_alloc (Below.refl _ _) _) _)
            have RX := Lib.hid (show rowAt ((w.alloc (.cells #[.int .i64 z0, .int .i64 z1, .int .i64 z2, .int .i64 z3, .slice a1 st.length c1, .slice a2 fr.length c2, .slice a3 hd.length c3, .int .i64 3, .int .u64 1, .int .i64 cod] 45)).drewN nq) w.heap.size 45 [.int .i64 z0, .int .i64 z1, .int .i64 z2, .int .i64 z3, .slice a1 st.length c1, .slice a2 fr.length c2, .slice a3 hd.length c3, .int .i64 3, .int .u64 1, .int .i64 cod] from rowAt.made _ _ _)
            obtain ⟨X, hX⟩ : ∃ X, (w.alloc (.cells #[.int .i64 z0, .int .i64 z1, .int .i64 z2, .int .i64 z3, .slice a1 st.length c1, .slice a2 fr.length c2, .slice a3 hd.length c3, .int .i64 3, .int .u64 1, .int .i64 cod] 45)).drewN nq = X := ⟨_, rfl⟩
            rw [hX] at BX RX ⊢
            clear hX
            obtain ⟨d0, d1, d2, d3, d4, d5, d6, d7, d8, d9⟩ := cells10 RX.out
            go_wp2_with fail
            go_quiet ((go_at_call 42; refine Calls.quiet_of_same ((intF_0 _).mono fun e w' h => h)))
            go_wp2_with fail
            go_ret
            exact ⟨ret_bool E.out, down_drewN BX.out _⟩
      · skip
        by_cases c : cod = 0
        · subst c
          by_cases f : fr.length = 0
          · skip
            have E := Lib.hid (show false = stG _ from (by (simp [stG, h, r, f] <;> omega) : false = stG ⟨z0, z1, z2, z3, st, fr, hd, 3, res, 0⟩))
            have r' : (res != 1) = true := by simpa using r
            have f' : decide (0 < fr.length) = false := decide_eq_false (by omega)
            clear h r f
            go_enter Tryz.func49, Tryz.ntmps49
            go_wp2_with fail
            refine (within_is HB.out _).mono ?_
            rintro e w' ⟨rfl, rfl⟩
            go_wp2_with fail
            go_quiet (fail)
            rename_i nq
            have BX := Lib.hid (show Below w.heap.size w ((w.alloc (.cells #[.int .i64 z0, .int .i64 z1, .int .i64 z2, .int .i64 z3, .slice a1 st.length c1, .slice a2 fr.length c2, .slice a3 hd.length c3, .int .i64 3, .int .u64 res, .int .i64 0] 45)).drewN nq) from down_drewN (down_alloc (Below.refl _ _) _) _)
            have RX := Lib.hid (show rowAt ((w.alloc (.cells #[.int .i64 z0, .int .i64 z1, .int .i64 z2, .int .i64 z3, .slice a1 st.length c1, .slice a2 fr.length c2, .slice a3 hd.length c3, .int .i64 3, .int .u64 res, .int .i64 0] 45)).drewN nq) w.heap.size 45 [.int .i64 z0, .int .i64 z1, .int .i64 z2, .int .i64 z3, .slice a1 st.length c1, .slice a2 fr.length c2, .slice a3 hd.length c3, .int .i64 3, .int .u64 res, .int .i64 0] from rowAt.made _ _ _)
            obtain ⟨X, hX⟩ : ∃ X, (w.alloc (.cells #[.int .i64 z0, .int .i64 z1, .int .i64 z2, .int .i64 z3, .slice a1 st.length c1, .slice a2 fr.length c2, .slice a3 hd.length c3, .int .i64 3, .int .u64 res, .int .i64 0] 45)).drewN nq = X := ⟨_, rfl⟩
            rw [hX] at BX RX ⊢
            clear hX
            obtain ⟨d0, d1, d2, d3, d4, d5, d6, d7, d8, d9⟩ := cells10 RX.out
            go_wp2_with fail
            go_quiet ((go_at_call 42; refine Calls.quiet_of_same ((intF_0 _).mono fun e w' h => h)))
            go_wp2_with fail
            go_ret
            exact ⟨ret_bool E.out, down_drewN BX.out _⟩
          · skip
            have E := Lib.hid (show false = stG _ from (by (simp [stG, h, r, f] <;> omega) : false = stG ⟨z0, z1, z2, z3, st, fr, hd, 3, res, 0⟩))
            have r' : (res != 1) = true := by simpa using r
            have f' : 0 < fr.length := by omega
            clear h r f
            go_enter Tryz.func49, Tryz.ntmps49
            go_wp2_with fail
            refine (within_is HB.out _).mono ?_
            rintro e w' ⟨rfl, rfl⟩
            go_wp2_with fail
            go_quiet (fail)
            rename_i nq
            have BX := Lib.hid (show Below w.heap.size w ((w.alloc (.cells #[.int .i64 z0, .int .i64 z1, .int .i64 z2, .int .i64 z3, .slice a1 st.length c1, .slice a2 fr.length c2, .slice a3 hd.length c3, .int .i64 3, .int .u64 res, .int .i64 0] 45)).drewN nq) from down_drewN (down_alloc (Below.refl _ _) _) _)
            have RX := Lib.hid (show rowAt ((w.alloc (.cells #[.int .i64 z0, .int .i64 z1, .int .i64 z2, .int .i64 z3, .slice a1 st.length c1, .slice a2 fr.length c2, .slice a3 hd.length c3, .int .i64 3, .int .u64 res, .int .i64 0] 45)).drewN nq) w.heap.size 45 [.int .i64 z0, .int .i64 z1, .int .i64 z2, .int .i64 z3, .slice a1 st.length c1, .slice a2 fr.length c2, .slice a3 hd.length c3, .int .i64 3, .int .u64 res, .int .i64 0] from rowAt.made _ _ _)
            obtain ⟨X, hX⟩ : ∃ X, (w.alloc (.cells #[.int .i64 z0, .int .i64 z1, .int .i64 z2, .int .i64 z3, .slice a1 st.length c1, .slice a2 fr.length c2, .slice a3 hd.length c3, .int .i64 3, .int .u64 res, .int .i64 0] 45)).drewN nq = X := ⟨_, rfl⟩
            rw [hX] at BX RX ⊢
            clear hX
            obtain ⟨d0, d1, d2, d3, d4, d5, d6, d7, d8, d9⟩ := cells10 RX.out
            go_wp2_with fail
            go_quiet ((go_at_call 42; refine Calls.quiet_of_same ((intF_0 _).mono fun e w' h => h)))
            go_wp2_with fail
            go_ret
            exact ⟨ret_bool E.out, down_drewN BX.out _⟩
        · skip
          by_cases f : fr.length = 0
          · skip
            have E := Lib.hid (show false = stG _ from (by (simp [stG, h, r, c, f] <;> omega) : false = stG ⟨z0, z1, z2, z3, st, fr, hd, 3, res, cod⟩))
            have r' : (res != 1) = true := by simpa using r
            have c' : (cod != 0) = true := by simpa using c
            have f' : decide (0 < fr.length) = false := decide_eq_false (by omega)
            clear h r c f
            go_enter Tryz.func49, Tryz.ntmps49
            go_wp2_with fail
            refine (within_is HB.out _).mono ?_
            rintro e w' ⟨rfl, rfl⟩
            go_wp2_with fail
            go_quiet (fail)
            rename_i nq
            have BX := Lib.hid (show Below w.heap.size w ((w.alloc (.cells #[.int .i64 z0, .int .i64 z1, .int .i64 z2, .int .i64 z3, .slice a1 st.length c1, .slice a2 fr.length c2, .slice a3 hd.length c3, .int .i64 3, .int .u64 res, .int .i64 cod] 45)).drewN nq) from down_drewN (down_alloc (Below.refl _ _) _) _)
            have RX := Lib.hid (show rowAt ((w.alloc (.cells #[.int .i64 z0, .int .i64 z1, .int .i64 z2, .int .i64 z3, .slice a1 st.length c1, .slice a2 fr.length c2, .slice a3 hd.length c3, .int .i64 3, .int .u64 res, .int .i64 cod] 45)).drewN nq) w.heap.size 45 [.int .i64 z0, .int .i64 z1, .int .i64 z2, .int .i64 z3, .slice a1 st.length c1, .slice a2 fr.length c2, .slice a3 hd.length c3, .int .i64 3, .int .u64 res, .int .i64 cod] from rowAt.made _ _ _)
            obtain ⟨X, hX⟩ : ∃ X, (w.alloc (.cells #[.int .i64 z0, .int .i64 z1, .int .i64 z2, .int .i64 z3, .slice a1 st.length c1, .slice a2 fr.length c2, .slice a3 hd.length c3, .int .i64 3, .int .u64 res, .int .i64 cod] 45)).drewN nq = X := ⟨_, rfl⟩
            rw [hX] at BX RX ⊢
            clear hX
            obtain ⟨d0, d1, d2, d3, d4, d5, d6, d7, d8, d9⟩ := cells10 RX.out
            go_wp2_with fail
            go_quiet ((go_at_call 42; refine Calls.quiet_of_same ((intF_0 _).mono fun e w' h => h)))
            go_wp2_with fail
            go_ret
            exact ⟨ret_bool E.out, down_drewN BX.out _⟩
          · skip
            have E := Lib.hid (show false = stG _ from (by (simp [stG, h, r, c, f] <;> omega) : false = stG ⟨z0, z1, z2, z3, st, fr, hd, 3, res, cod⟩))
            have r' : (res != 1) = true := by simpa using r
            have c' : (cod != 0) = true := by simpa using c
            have f' : 0 < fr.length := by omega
            clear h r c f
            go_enter Tryz.func49, Tryz.ntmps49
            go_wp2_with fail
            refine (within_is HB.out _).mono ?_
            rintro e w' ⟨rfl, rfl⟩
            go_wp2_with fail
            go_quiet (fail)
            rename_i nq
            have BX := Lib.hid (show Below w.heap.size w ((w.alloc (.cells #[.int .i64 z0, .int .i64 z1, .int .i64 z2, .int .i64 z3, .slice a1 st.length c1, .slice a2 fr.length c2, .slice a3 hd.length c3, .int .i64 3, .int .u64 res, .int .i64 cod] 45)).drewN nq) from down_drewN (down_alloc (Below.refl _ _) _) _)
            have RX := Lib.hid (show rowAt ((w.alloc (.cells #[.int .i64 z0, .int .i64 z1, .int .i64 z2, .int .i64 z3, .slice a1 st.length c1, .slice a2 fr.length c2, .slice a3 hd.length c3, .int .i64 3, .int .u64 res, .int .i64 cod] 45)).drewN nq) w.heap.size 45 [.int .i64 z0, .int .i64 z1, .int .i64 z2, .int .i64 z3, .slice a1 st.length c1, .slice a2 fr.length c2, .slice a3 hd.length c3, .int .i64 3, .int .u64 res, .int .i64 cod] from rowAt.made _ _ _)
            obtain ⟨X, hX⟩ : ∃ X, (w.alloc (.cells #[.int .i64 z0, .int .i64 z1, .int .i64 z2, .int .i64 z3, .slice a1 st.length c1, .slice a2 fr.length c2, .slice a3 hd.length c3, .int .i64 3, .int .u64 res, .int .i64 cod] 45)).drewN nq = X := ⟨_, rfl⟩
            rw [hX] at BX RX ⊢
            clear hX
            obtain ⟨d0, d1, d2, d3, d4, d5, d6, d7, d8, d9⟩ := cells10 RX.out
            go_wp2_with fail
            go_quiet ((go_at_call 42; refine Calls.quiet_of_same ((intF_0 _).mono fun e w' h => h)))
            go_wp2_with fail
            go_ret
            exact ⟨ret_bool E.out, down_drewN BX.out _⟩
    · by_cases s8 : sta = 8
      · subst s8
        by_cases r : res = 1
        · subst r
          by_cases c : cod = 0
          · subst c
            by_cases f : fr.length = 0
            · skip
              have E := Lib.hid (show true = stG _ from (by (simp [stG, h, f] <;> omega) : true = stG ⟨z0, z1, z2, z3, st, fr, hd, 8, 1, 0⟩))
              have f' : decide (0 < fr.length) = false := decide_eq_false (by omega)
              clear h f
              go_enter Tryz.func49, Tryz.ntmps49
              go_wp2_with fail
              refine (within_is HB.out _).mono ?_
              rintro e w' ⟨rfl, rfl⟩
              go_wp2_with fail
              go_quiet (fail)
              rename_i nq
              have BX := Lib.hid (show Below w.heap.size w ((w.alloc (.cells #[.int .i64 z0, .int .i64 z1, .int .i64 z2, .int .i64 z3, .slice a1 st.length c1, .slice a2 fr.length c2, .slice a3 hd.length c3, .int .i64 8, .int .u64 1, .int .i64 0] 45)).drewN nq) from down_drewN (down_alloc (Below.refl _ _) _) _)
              have RX := Lib.hid (show rowAt ((w.alloc (.cells #[.int .i64 z0, .int .i64 z1, .int .i64 z2, .int .i64 z3, .slice a1 st.length c1, .slice a2 fr.length c2, .slice a3 hd.length c3, .int .i64 8, .int .u64 1, .int .i64 0] 45)).drewN nq) w.heap.size 45 [.int .i64 z0, .int .i64 z1, .int .i64 z2, .int .i64 z3, .slice a1 st.length c1, .slice a2 fr.length c2, .slice a3 hd.length c3, .int .i64 8, .int .u64 1, .int .i64 0] from rowAt.made _ _ _)
              obtain ⟨X, hX⟩ : ∃ X, (w.alloc (.cells #[.int .i64 z0, .int .i64 z1, .int .i64 z2, .int .i64 z3, .slice a1 st.length c1, .slice a2 fr.length c2, .slice a3 hd.length c3, .int .i64 8, .int .u64 1, .int .i64 0] 45)).drewN nq = X := ⟨_, rfl⟩
              rw [hX] at BX RX ⊢
              clear hX
              obtain ⟨d0, d1, d2, d3, d4, d5, d6, d7, d8, d9⟩ := cells10 RX.out
              go_wp2_with fail
              go_quiet ((go_at_call 42; refine Calls.quiet_of_same ((intF_0 _).mono fun e w' h => h)))
              go_wp2_with fail
              go_ret
              exact ⟨ret_bool E.out, down_drewN BX.out _⟩
            · skip
              have E := Lib.hid (show true = stG _ from (by (simp [stG, h, f] <;> omega) : true = stG ⟨z0, z1, z2, z3, st, fr, hd, 8, 1, 0⟩))
              have f' : 0 < fr.length := by omega
              clear h f
              go_enter Tryz.func49, Tryz.ntmps49
              go_wp2_with fail
              refine (within_is HB.out _).mono ?_
              rintro e w' ⟨rfl, rfl⟩
              go_wp2_with fail
              go_quiet (fail)
              rename_i nq
              have BX := Lib.hid (show Below w.heap.size w ((w.alloc (.cells #[.int .i64 z0, .int .i64 z1, .int .i64 z2, .int .i64 z3, .slice a1 st.length c1, .slice a2 fr.length c2, .slice a3 hd.length c3, .int .i64 8, .int .u64 1, .int .i64 0] 45)).drewN nq) from down_drewN (down_alloc (Below.refl _ _) _) _)
              have RX := Lib.hid (show rowAt ((w.alloc (.cells #[.int .i64 z0, .int .i64 z1, .int .i64 z2, .int .i64 z3, .slice a1 st.length c1, .slice a2 fr.length c2, .slice a3 hd.length c3, .int .i64 8, .int .u64 1, .int .i64 0] 45)).drewN nq) w.heap.size 45 [.int .i64 z0, .int .i64 z1, .int .i64 z2, .int .i64 z3, .slice a1 st.length c1, .slice a2 fr.length c2, .slice a3 hd.length c3, .int .i64 8, .int .u64 1, .int .i64 0] from rowAt.made _ _ _)
              obtain ⟨X, hX⟩ : ∃ X, (w.alloc (.cells #[.int .i64 z0, .int .i64 z1, .int .i64 z2, .int .i64 z3, .slice a1 st.length c1, .slice a2 fr.length c2, .slice a3 hd.length c3, .int .i64 8, .int .u64 1, .int .i64 0] 45)).drewN nq = X := ⟨_, rfl⟩
              rw [hX] at BX RX ⊢
              clear hX
              obtain ⟨d0, d1, d2, d3, d4, d5, d6, d7, d8, d9⟩ := cells10 RX.out
              go_wp2_with fail
              go_quiet ((go_at_call 42; refine Calls.quiet_of_same ((intF_0 _).mono fun e w' h => h)))
              go_wp2_with fail
              go_ret
              exact ⟨ret_bool E.out, down_drewN BX.out _⟩
          · skip
            by_cases f : fr.length = 0
            · skip
              have E := Lib.hid (show false = stG _ from (by (simp [stG, h, c, f] <;> omega) : false = stG ⟨z0, z1, z2, z3, st, fr, hd, 8, 1, cod⟩))
              have c' : (cod != 0) = true := by simpa using c
              have f' : decide (0 < fr.length) = false := decide_eq_false (by omega)
              clear h c f
              go_enter Tryz.func49, Tryz.ntmps49
              go_wp2_with fail
              refine (within_is HB.out _).mono ?_
              rintro e w' ⟨rfl, rfl⟩
              go_wp2_with fail
              go_quiet (fail)
              rename_i nq
              have BX := Lib.hid (show Below w.heap.size w ((w.alloc (.cells #[.int .i64 z0, .int .i64 z1, .int .i64 z2, .int .i64 z3, .slice a1 st.length c1, .slice a2 fr.length c2, .slice a3 hd.length c3, .int .i64 8, .int .u64 1, .int .i64 cod] 45)).drewN nq) from down_drewN (down_alloc (Below.refl _ _) _) _)
              have RX := Lib.hid (show rowAt ((w.alloc (.cells #[.int .i64 z0, .int .i64 z1, .int .i64 z2, .int .i64 z3, .slice a1 st.length c1, .slice a2 fr.length c2, .slice a3 hd.length c3, .int .i64 8, .int .u64 1, .int .i64 cod] 45)).drewN nq) w.heap.size 45 [.int .i64 z0, .int .i64 z1, .int .i64 z2, .int .i64 z3, .slice a1 st.length c1, .slice a2 fr.length c2, .slice a3 hd.length c3, .int .i64 8, .int .u64 1, .int .i64 cod] from rowAt.made _ _ _)
              obtain ⟨X, hX⟩ : ∃ X, (w.alloc (.cells #[.int .i64 z0, .int .i64 z1, .int .i64 z2, .int .i64 z3, .slice a1 st.length c1, .slice a2 fr.length c2, .slice a3 hd.length c3, .int .i64 8, .int .u64 1, .int .i64 cod] 45)).drewN nq = X := ⟨_, rfl⟩
              rw [hX] at BX RX ⊢
              clear hX
              obtain ⟨d0, d1, d2, d3, d4, d5, d6, d7, d8, d9⟩ := cells10 RX.out
              go_wp2_with fail
              go_quiet ((go_at_call 42; refine Calls.quiet_of_same ((intF_0 _).mono fun e w' h => h)))
              go_wp2_with fail
              go_ret
              exact ⟨ret_bool E.out, down_drewN BX.out _⟩
            · skip
              have E := Lib.hid (show false = stG _ from (by (simp [stG, h, c, f] <;> omega) : false = stG ⟨z0, z1, z2, z3, st, fr, hd, 8, 1, cod⟩))
              have c' : (cod != 0) = true := by simpa using c
              have f' : 0 < fr.length := by omega
              clear h c f
              go_enter Tryz.func49, Tryz.ntmps49
              go_wp2_with fail
              refine (within_is HB.out _).mono ?_
              rintro e w' ⟨rfl, rfl⟩
              go_wp2_with fail
              go_quiet (fail)
              rename_i nq
              have BX := Lib.hid (show Below w.heap.size w ((w.alloc (.cells #[.int .i64 z0, .int .i64 z1, .int .i64 z2, .int .i64 z3, .slice a1 st.length c1, .slice a2 fr.length c2, .slice a3 hd.length c3, .int .i64 8, .int .u64 1, .int .i64 cod] 45)).drewN nq) from down_drewN (down_alloc (Below.refl _ _) _) _)
              have RX := Lib.hid (show rowAt ((w.alloc (.cells #[.int .i64 z0, .int .i64 z1, .int .i64 z2, .int .i64 z3, .slice a1 st.length c1, .slice a2 fr.length c2, .slice a3 hd.length c3, .int .i64 8, .int .u64 1, .int .i64 cod] 45)).drewN nq) w.heap.size 45 [.int .i64 z0, .int .i64 z1, .int .i64 z2, .int .i64 z3, .slice a1 st.length c1, .slice a2 fr.length c2, .slice a3 hd.length c3, .int .i64 8, .int .u64 1, .int .i64 cod] from rowAt.made _ _ _)
              obtain ⟨X, hX⟩ : ∃ X, (w.alloc (.cells #[.int .i64 z0, .int .i64 z1, .int .i64 z2, .int .i64 z3, .slice a1 st.length c1, .slice a2 fr.length c2, .slice a3 hd.length c3, .int .i64 8, .int .u64 1, .int .i64 cod] 45)).drewN nq = X := ⟨_, rfl⟩
              rw [hX] at BX RX ⊢
              clear hX
              obtain ⟨d0, d1, d2, d3, d4, d5, d6, d7, d8, d9⟩ := cells10 RX.out
              go_wp2_with fail
              go_quiet ((go_at_call 42; refine Calls.quiet_of_same ((intF_0 _).mono fun e w' h => h)))
              go_wp2_with fail
              go_ret
              exact ⟨ret_bool E.out, down_drewN BX.out _⟩
        · skip
          by_cases c : cod = 0
          · subst c
            by_cases f : fr.length = 0
            · skip
              have E := Lib.hid (show false = stG _ from (by (simp [stG, h, r, f] <;> omega) : false = stG ⟨z0, z1, z2, z3, st, fr, hd, 8, res, 0⟩))
              have r' : (res != 1) = true := by simpa using r
              have f' : decide (0 < fr.length) = false := decide_eq_false (by omega)
              clear h r f
              go_enter Tryz.func49, Tryz.ntmps49
              go_wp2_with fail
              refine (within_is HB.out _).mono ?_
              rintro e w' ⟨rfl, rfl⟩
              go_wp2_with fail
              go_quiet (fail)
              rename_i nq
              have BX := Lib.hid (show Below w.heap.size w ((w.alloc (.cells #[.int .i64 z0, .int .i64 z1, .int .i64 z2, .int .i64 z3, .slice a1 st.length c1, .slice a2 fr.length c2, .slice a3 hd.length c3, .int .i64 8, .int .u64 res, .int .i64 0] 45)).drewN nq) from down_drewN (down_alloc (Below.refl _ _) _) _)
              have RX := Lib.hid (show rowAt ((w.alloc (.cells #[.int .i64 z0, .int .i64 z1, .int .i64 z2, .int .i64 z3, .slice a1 st.length c1, .slice a2 fr.length c2, .slice a3 hd.length c3, .int .i64 8, .int .u64 res, .int .i64 0] 45)).drewN nq) w.heap.size 45 [.int .i64 z0, .int .i64 z1, .int .i64 z2, .int .i64 z3, .slice a1 st.length c1, .slice a2 fr.length c2, .slice a3 hd.length c3, .int .i64 8, .int .u64 res, .int .i64 0] from rowAt.made _ _ _)
              obtain ⟨X, hX⟩ : ∃ X, (w.alloc (.cells #[.int .i64 z0, .int .i64 z1, .int .i64 z2, .int .i64 z3, .slice a1 st.length c1, .slice a2 fr.length c2, .slice a3 hd.length c3, .int .i64 8, .int .u64 res, .int .i64 0] 45)).drewN nq = X := ⟨_, rfl⟩
              rw [hX] at BX RX ⊢
              clear hX
              obtain ⟨d0, d1, d2, d3, d4, d5, d6, d7, d8, d9⟩ := cells10 RX.out
              go_wp2_with fail
              go_quiet ((go_at_call 42; refine Calls.quiet_of_same ((intF_0 _).mono fun e w' h => h)))
              go_wp2_with fail
              go_ret
              exact ⟨ret_bool E.out, down_drewN BX.out _⟩
            · skip
              have E := Lib.hid (show false = stG _ from (by (simp [stG, h, r, f] <;> omega) : false = stG ⟨z0, z1, z2, z3, st, fr, hd, 8, res, 0⟩))
              have r' : (res != 1) = true := by simpa using r
              have f' : 0 < fr.length := by omega
              clear h r f
              go_enter Tryz.func49, Tryz.ntmps49
              go_wp2_with fail
              refine (within_is HB.out _).mono ?_
              rintro e w' ⟨rfl, rfl⟩
              go_wp2_with fail
              go_quiet (fail)
              rename_i nq
              have BX := Lib.hid (show Below w.heap.size w ((w.alloc (.cells #[.int .i64 z0, .int .i64 z1, .int .i64 z2, .int .i64 z3, .slice a1 st.length c1, .slice a2 fr.length c2, .slice a3 hd.length c3, .int .i64 8, .int .u64 res, .int .i64 0] 45)).drewN nq) from down_drewN (down_alloc (Below.refl _ _) _) _)
              have RX := Lib.hid (show rowAt ((w.alloc (.cells #[.int .i64 z0, .int .i64 z1, .int .i64 z2, .int .i64 z3, .slice a1 st.length c1, .slice a2 fr.length c2, .slice a3 hd.length c3, .int .i64 8, .int .u64 res, .int .i64 0] 45)).drewN nq) w.heap.size 45 [.int .i64 z0, .int .i64 z1, .int .i64 z2, .int .i64 z3, .slice a1 st.length c1, .slice a2 fr.length c2, .slice a3 hd.length c3, .int .i64 8, .int .u64 res, .int .i64 0] from rowAt.made _ _ _)
              obtain ⟨X, hX⟩ : ∃ X, (w.alloc (.cells #[.int .i64 z0, .int .i64 z1, .int .i64 z2, .int .i64 z3, .slice a1 st.length c1, .slice a2 fr.length c2, .slice a3 hd.length c3, .int .i64 8, .int .u64 res, .int .i64 0] 45)).drewN nq = X := ⟨_, rfl⟩
              rw [hX] at BX RX ⊢
              clear hX
              obtain ⟨d0, d1, d2, d3, d4, d5, d6, d7, d8, d9⟩ := cells10 RX.out
              go_wp2_with fail
              go_quiet ((go_at_call 42; refine Calls.quiet_of_same ((intF_0 _).mono fun e w' h => h)))
              go_wp2_with fail
              go_ret
              exact ⟨ret_bool E.out, down_drewN BX.out _⟩
          · skip
            by_cases f : fr.length = 0
            · skip
              have E := Lib.hid (show false = stG _ from (by (simp [stG, h, r, c, f] <;> omega) : false = stG ⟨z0, z1, z2, z3, st, fr, hd, 8, res, cod⟩))
              have r' : (res != 1) = true := by simpa using r
              have c' : (cod != 0) = true := by simpa using c
              have f' : decide (0 < fr.length) = false := decide_eq_false (by omega)
              clear h r c f
              go_enter Tryz.func49, Tryz.ntmps49
              go_wp2_with fail
              refine (within_is HB.out _).mono ?_
              rintro e w' ⟨rfl, rfl⟩
              go_wp2_with fail
              go_quiet (fail)
              rename_i nq
              have BX := Lib.hid (show Below w.heap.size w ((w.alloc (.cells #[.int .i64 z0, .int .i64 z1, .int .i64 z2, .int .i64 z3, .slice a1 st.length c1, .slice a2 fr.length c2, .slice a3 hd.length c3, .int .i64 8, .int .u64 res, .int .i64 cod] 45)).drewN nq) from down_drewN (down_alloc (Below.refl _ _) _) _)
              have RX := Lib.hid (show rowAt ((w.alloc (.cells #[.int .i64 z0, .int .i64 z1, .int .i64 z2, .int .i64 z3, .slice a1 st.length c1, .slice a2 fr.length c2, .slice a3 hd.length c3, .int .i64 8, .int .u64 res, .int .i64 cod] 45)).drewN nq) w.heap.size 45 [.int .i64 z0, .int .i64 z1, .int .i64 z2, .int .i64 z3, .slice a1 st.length c1, .slice a2 fr.length c2, .slice a3 hd.length c3, .int .i64 8, .int .u64 res, .int .i64 cod] from rowAt.made _ _ _)
              obtain ⟨X, hX⟩ : ∃ X, (w.alloc (.cells #[.int .i64 z0, .int .i64 z1, .int .i64 z2, .int .i64 z3, .slice a1 st.length c1, .slice a2 fr.length c2, .slice a3 hd.length c3, .int .i64 8, .int .u64 res, .int .i64 cod] 45)).drewN nq = X := ⟨_, rfl⟩
              rw [hX] at BX RX ⊢
              clear hX
              obtain ⟨d0, d1, d2, d3, d4, d5, d6, d7, d8, d9⟩ := cells10 RX.out
              go_wp2_with fail
              go_quiet ((go_at_call 42; refine Calls.quiet_of_same ((intF_0 _).mono fun e w' h => h)))
              go_wp2_with fail
              go_ret
              exact ⟨ret_bool E.out, down_drewN BX.out _⟩
            · skip
              have E := Lib.hid (show false = stG _ from (by (simp [stG, h, r, c, f] <;> omega) : false = stG ⟨z0, z1, z2, z3, st, fr, hd, 8, res, cod⟩))
              have r' : (res != 1) = true := by simpa using r
              have c' : (cod != 0) = true := by simpa using c
              have f' : 0 < fr.length := by omega
              clear h r c f
              go_enter Tryz.func49, Tryz.ntmps49
              go_wp2_with fail
              refine (within_is HB.out _).mono ?_
              rintro e w' ⟨rfl, rfl⟩
              go_wp2_with fail
              go_quiet (fail)
              rename_i nq
              have BX := Lib.hid (show Below w.heap.size w ((w.alloc (.cells #[.int .i64 z0, .int .i64 z1, .int .i64 z2, .int .i64 z3, .slice a1 st.length c1, .slice a2 fr.length c2, .slice a3 hd.length c3, .int .i64 8, .int .u64 res, .int .i64 cod] 45)).drewN nq) from down_drewN (down_alloc (Below.refl _ _) _) _)
              have RX := Lib.hid (show rowAt ((w.alloc (.cells #[.int .i64 z0, .int .i64 z1, .int .i64 z2, .int .i64 z3, .slice a1 st.length c1, .slice a2 fr.length c2, .slice a3 hd.length c3, .int .i64 8, .int .u64 res, .int .i64 cod] 45)).drewN nq) w.heap.size 45 [.int .i64 z0, .int .i64 z1, .int .i64 z2, .int .i64 z3, .slice a1 st.length c1, .slice a2 fr.length c2, .slice a3 hd.length c3, .int .i64 8, .int .u64 res, .int .i64 cod] from rowAt.made _ _ _)
              obtain ⟨X, hX⟩ : ∃ X, (w.alloc (.cells #[.int .i64 z0, .int .i64 z1, .int .i64 z2, .int .i64 z3, .slice a1 st.length c1, .slice a2 fr.length c2, .slice a3 hd.length c3, .int .i64 8, .int .u64 res, .int .i64 cod] 45)).drewN nq = X := ⟨_, rfl⟩
              rw [hX] at BX RX ⊢
              clear hX
              obtain ⟨d0, d1, d2, d3, d4, d5, d6, d7, d8, d9⟩ := cells10 RX.out
              go_wp2_with fail
              go_quiet ((go_at_call 42; refine Calls.quiet_of_same ((intF_0 _).mono fun e w' h => h)))
              go_wp2_with fail
              go_ret
              exact ⟨ret_bool E.out, down_drewN BX.out _⟩
      · skip
        by_cases r : res = 1
        · subst r
          by_cases c : cod = 0
          · subst c
            by_cases f : fr.length = 0
            · skip
              have E := Lib.hid (show false = stG _ from (by (simp [stG, h, s2, s3, s8, f] <;> omega) : false = stG ⟨z0, z1, z2, z3, st, fr, hd, sta, 1, 0⟩))
              have s2' : (sta == 2) = false := by simpa using s2
              have s3' : (sta == 3) = false := by simpa using s3
              have s8' : (sta == 8) = false := by simpa using s8
              have f' : decide (0 < fr.length) = false := decide_eq_false (by omega)
              clear h s2 s3 s8 f
              go_enter Tryz.func49, Tryz.ntmps49
              go_wp2_with fail
              refine (within_is HB.out _).mono ?_
              rintro e w' ⟨rfl, rfl⟩
              go_wp2_with fail
              go_quiet (fail)
              rename_i nq
              have BX := Lib.hid (show Below w.heap.size w ((w.alloc (.cells #[.int .i64 z0, .int .i64 z1, .int .i64 z2, .int .i64 z3, .slice a1 st.length c1, .slice a2 fr.length c2, .slice a3 hd.length c3, .int .i64 sta, .int .u64 1, .int .i64 0] 45)).drewN nq) from down_drewN (down_alloc (Below.refl _ _) _) _)
              have RX := Lib.hid (show rowAt ((w.alloc (.cells #[.int .i64 z0, .int .i64 z1, .int .i64 z2, .int .i64 z3, .slice a1 st.length c1, .slice a2 fr.length c2, .slice a3 hd.length c3, .int .i64 sta, .int .u64 1, .int .i64 0] 45)).drewN nq) w.heap.size 45 [.int .i64 z0, .int .i64 z1, .int .i64 z2, .int .i64 z3, .slice a1 st.length c1, .slice a2 fr.length c2, .slice a3 hd.length c3, .int .i64 sta, .int .u64 1, .int .i64 0] from rowAt.made _ _ _)
              obtain ⟨X, hX⟩ : ∃ X, (w.alloc (.cells #[.int .i64 z0, .int .i64 z1, .int .i64 z2, .int .i64 z3, .slice a1 st.length c1, .slice a2 fr.length c2, .slice a3 hd.length c3, .int .i64 sta, .int .u64 1, .int .i64 0] 45)).drewN nq = X := ⟨_, rfl⟩
              rw [hX] at BX RX ⊢
              clear hX
              obtain ⟨d0, d1, d2, d3, d4, d5, d6, d7, d8, d9⟩ := cells10 RX.out
              go_wp2_with fail
              go_quiet ((go_at_call 42; refine Calls.quiet_of_same ((intF_0 _).mono fun e w' h => h)))
              go_wp2_with fail
              go_ret
              exact ⟨ret_bool E.out, down_drewN BX.out _⟩
            · skip
              have E := Lib.hid (show true = stG _ from (by (simp [stG, h, s2, s3, s8, f] <;> omega) : true = stG ⟨z0, z1, z2, z3, st, fr, hd, sta, 1, 0⟩))
              have s2' : (sta == 2) = false := by simpa using s2
              have s3' : (sta == 3) = false := by simpa using s3
              have s8' : (sta == 8) = false := by simpa using s8
              have f' : 0 < fr.length := by omega
              clear h s2 s3 s8 f
              go_enter Tryz.func49, Tryz.ntmps49
              go_wp2_with fail
              refine (within_is HB.out _).mono ?_
              rintro e w' ⟨rfl, rfl⟩
              go_wp2_with fail
              go_quiet (fail)
              rename_i nq
              have BX := Lib.hid (show Below w.heap.size w ((w.alloc (.cells #[.int .i64 z0, .int .i64 z1, .int .i64 z2, .int .i64 z3, .slice a1 st.length c1, .slice a2 fr.length c2, .slice a3 hd.length c3, .int .i64 sta, .int .u64 1, .int .i64 0] 45)).drewN nq) from down_drewN (down_alloc (Below.refl _ _) _) _)
              have RX := Lib.hid (show rowAt ((w.alloc (.cells #[.int .i64 z0, .int .i64 z1, .int .i64 z2, .int .i64 z3, .slice a1 st.length c1, .slice a2 fr.length c2, .slice a3 hd.length c3, .int .i64 sta, .int .u64 1, .int .i64 0] 45)).drewN nq) w.heap.size 45 [.int .i64 z0, .int .i64 z1, .int .i64 z2, .int .i64 z3, .slice a1 st.length c1, .slice a2 fr.length c2, .slice a3 hd.length c3, .int .i64 sta, .int .u64 1, .int .i64 0] from rowAt.made _ _ _)
              obtain ⟨X, hX⟩ : ∃ X, (w.alloc (.cells #[.int .i64 z0, .int .i64 z1, .int .i64 z2, .int .i64 z3, .slice a1 st.length c1, .slice a2 fr.length c2, .slice a3 hd.length c3, .int .i64 sta, .int .u64 1, .int .i64 0] 45)).drewN nq = X := ⟨_, rfl⟩
              rw [hX] at BX RX ⊢
              clear hX
              obtain ⟨d0, d1, d2, d3, d4, d5, d6, d7, d8, d9⟩ := cells10 RX.out
              go_wp2_with fail
              go_quiet ((go_at_call 42; refine Calls.quiet_of_same ((intF_0 _).mono fun e w' h => h)))
              go_wp2_with fail
              go_ret
              exact ⟨ret_bool E.out, down_drewN BX.out _⟩
          · skip
            by_cases f : fr.length = 0
            · skip
              have E := Lib.hid (show false = stG _ from (by (simp [stG, h, s2, s3, s8, c, f] <;> omega) : false = stG ⟨z0, z1, z2, z3, st, fr, hd, sta, 1, cod⟩))
              have s2' : (sta == 2) = false := by simpa using s2
              have s3' : (sta == 3) = false := by simpa using s3
              have s8' : (sta == 8) = false := by simpa using s8
              have c' : (cod != 0) = true := by simpa using c
              have f' : decide (0 < fr.length) = false := decide_eq_false (by omega)
              clear h s2 s3 s8 c f
              go_enter Tryz.func49, Tryz.ntmps49
              go_wp2_with fail
              refine (within_is HB.out _).mono ?_
              rintro e w' ⟨rfl, rfl⟩
              go_wp2_with fail
              go_quiet (fail)
              rename_i nq
              have BX := Lib.hid (show Below w.heap.size w ((w.alloc (.cells #[.int .i64 z0, .int .i64 z1, .int .i64 z2, .int .i64 z3, .slice a1 st.length c1, .slice a2 fr.length c2, .slice a3 hd.length c3, .int .i64 sta, .int .u64 1, .int .i64 cod] 45)).drewN nq) from down_drewN (down_alloc (Below.refl _ _) _) _)
              have RX := Lib.hid (show rowAt ((w.alloc (.cells #[.int .i64 z0, .int .i64 z1, .int .i64 z2, .int .i64 z3, .slice a1 st.length c1, .slice a2 fr.length c2, .slice a3 hd.length c3, .int .i64 sta, .int .u64 1, .int .i64 cod] 45)).drewN nq) w.heap.size 45 [.int .i64 z0, .int .i64 z1, .int .i64 z2, .int .i64 z3, .slice a1 st.length c1, .slice a2 fr.length c2, .slice a3 hd.length c3, .int .i64 sta, .int .u64 1, .int .i64 cod] from rowAt.made _ _ _)
              obtain ⟨X, hX⟩ : ∃ X, (w.alloc (.cells #[.int .i64 z0, .int .i64 z1, .int .i64 z2, .int .i64 z3, .slice a1 st.length c1, .slice a2 fr.length c2, .slice a3 hd.length c3, .int .i64 sta, .int .u64 1, .int .i64 cod] 45)).drewN nq = X := ⟨_, rfl⟩
              rw [hX] at BX RX ⊢
              clear hX
              obtain ⟨d0, d1, d2, d3, d4, d5, d6, d7, d8, d9⟩ := cells10 RX.out
              go_wp2_with fail
              go_quiet ((go_at_call 42; refine Calls.quiet_of_same ((intF_0 _).mono fun e w' h => h)))
              go_wp2_with fail
              go_ret
              exact ⟨ret_bool E.out, down_drewN BX.out _⟩
            · skip
              have E := Lib.hid (show false = stG _ from (by (simp [stG, h, s2, s3, s8, c, f] <;> omega) : false = stG ⟨z0, z1, z2, z3, st, fr, hd, sta, 1, cod⟩))
              have s2' : (sta == 2) = false := by simpa using s2
              have s3' : (sta == 3) = false := by simpa using s3
              have s8' : (sta == 8) = false := by simpa using s8
              have c' : (cod != 0) = true := by simpa using c
              have f' : 0 < fr.length := by omega
              clear h s2 s3 s8 c f
              go_enter Tryz.func49, Tryz.ntmps49
              go_wp2_with fail
              refine (within_is HB.out _).mono ?_
              rintro e w' ⟨rfl, rfl⟩
              go_wp2_with fail
              go_quiet (fail)
              rename_i nq
              have BX := Lib.hid (show Below w.heap.size w ((w.alloc (.cells #[.int .i64 z0, .int .i64 z1, .int .i64 z2, .int .i64 z3, .slice a1 st.length c1, .slice a2 fr.length c2, .slice a3 hd.length c3, .int .i64 sta, .int .u64 1, .int .i64 cod] 45)).drewN nq) from down_drewN (down_alloc (Below.refl _ _) _) _)
              have RX := Lib.hid (show rowAt ((w.alloc (.cells #[.int .i64 z0, .int .i64 z1, .int .i64 z2, .int .i64 z3, .slice a1 st.length c1, .slice a2 fr.length c2, .slice a3 hd.length c3, .int .i64 sta, .int .u64 1, .int .i64 cod] 45)).drewN nq) w.heap.size 45 [.int .i64 z0, .int .i64 z1, .int .i64 z2, .int .i64 z3, .slice a1 st.length c1, .slice a2 fr.length c2, .slice a3 hd.length c3, .int .i64 sta, .int .u64 1, .int .i64 cod] from rowAt.made _ _ _)
              obtain ⟨X, hX⟩ : ∃ X, (w.alloc (.cells #[.int .i64 z0, .int .i64 z1, .int .i64 z2, .int .i64 z3, .slice a1 st.length c1, .slice a2 fr.length c2, .slice a3 hd.length c3, .int .i64 sta, .int .u64 1, .int .i64 cod] 45)).drewN nq = X := ⟨_, rfl⟩
              rw [hX] at BX RX ⊢
              clear hX
              obtain ⟨d0, d1, d2, d3, d4, d5, d6, d7, d8, d9⟩ := cells10 RX.out
              go_wp2_with fail
              go_quiet ((go_at_call 42; refine Calls.quiet_of_same ((intF_0 _).mono fun e w' h => h)))
              go_wp2_with fail
              go_ret
              exact ⟨ret_bool E.out, down_drewN BX.out _⟩
        · skip
          by_cases c : cod = 0
          · subst c
            by_cases f : fr.length = 0
            · skip
              have E := Lib.hid (show false = stG _ from (by (simp [stG, h, s2, s3, s8, r, f] <;> omega) : false = stG ⟨z0, z1, z2, z3, st, fr, hd, sta, res, 0⟩))
              have s2' : (sta == 2) = false := by simpa using s2
              have s3' : (sta == 3) = false := by simpa using s3
              have s8' : (sta == 8) = false := by simpa using s8
              have r' : (res != 1) = true := by simpa using r
              have f' : decide (0 < fr.length) = false := decide_eq_false (by omega)
              clear h s2 s3 s8 r f
              go_enter Tryz.func49, Tryz.ntmps49
              go_wp2_with fail
              refine (within_is HB.out _).mono ?_
              rintro e w' ⟨rfl, rfl⟩
              go_wp2_with fail
              go_quiet (fail)
              rename_i nq
              have BX := Lib.hid (show Below w.heap.size w ((w.alloc (.cells #[.int .i64 z0, .int .i64 z1, .int .i64 z2, .int .i64 z3, .slice a1 st.length c1, .slice a2 fr.length c2, .slice a3 hd.length c3, .int .i64 sta, .int .u64 res, .int .i64 0] 45)).drewN nq) from down_drewN (down_alloc (Below.refl _ _) _) _)
              have RX := Lib.hid (show rowAt ((w.alloc (.cells #[.int .i64 z0, .int .i64 z1, .int .i64 z2, .int .i64 z3, .slice a1 st.length c1, .slice a2 fr.length c2, .slice a3 hd.length c3, .int .i64 sta, .int .u64 res, .int .i64 0] 45)).drewN nq) w.heap.size 45 [.int .i64 z0, .int .i64 z1, .int .i64 z2, .int .i64 z3, .slice a1 st.length c1, .slice a2 fr.length c2, .slice a3 hd.length c3, .int .i64 sta, .int .u64 res, .int .i64 0] from rowAt.made _ _ _)
              obtain ⟨X, hX⟩ : ∃ X, (w.alloc (.cells #[.int .i64 z0, .int .i64 z1, .int .i64 z2, .int .i64 z3, .slice a1 st.length c1, .slice a2 fr.length c2, .slice a3 hd.length c3, .int .i64 sta, .int .u64 res, .int .i64 0] 45)).drewN nq = X := ⟨_, rfl⟩
              rw [hX] at BX RX ⊢
              clear hX
              obtain ⟨d0, d1, d2, d3, d4, d5, d6, d7, d8, d9⟩ := cells10 RX.out
              go_wp2_with fail
              go_quiet ((go_at_call 42; refine Calls.quiet_of_same ((intF_0 _).mono fun e w' h => h)))
              go_wp2_with fail
              go_ret
              exact ⟨ret_bool E.out, down_drewN BX.out _⟩
            · skip
              have E := Lib.hid (show false = stG _ from (by (simp [stG, h, s2, s3, s8, r, f] <;> omega) : false = stG ⟨z0, z1, z2, z3, st, fr, hd, sta, res, 0⟩))
              have s2' : (sta == 2) = false := by simpa using s2
              have s3' : (sta == 3) = false := by simpa using s3
              have s8' : (sta == 8) = false := by simpa using s8
              have r' : (res != 1) = true := by simpa using r
              have f' : 0 < fr.length := by omega
              clear h s2 s3 s8 r f
              go_enter Tryz.func49, Tryz.ntmps49
              go_wp2_with fail
              refine (within_is HB.out _).mono ?_
              rintro e w' ⟨rfl, rfl⟩
              go_wp2_with fail
              go_quiet (fail)
              rename_i nq
              have BX := Lib.hid (show Below w.heap.size w ((w.alloc (.cells #[.int .i64 z0, .int .i64 z1, .int .i64 z2, .int .i64 z3, .slice a1 st.length c1, .slice a2 fr.length c2, .slice a3 hd.length c3, .int .i64 sta, .int .u64 res, .int .i64 0] 45)).drewN nq) from down_drewN (down_alloc (Below.refl _ _) _) _)
              have RX := Lib.hid (show rowAt ((w.alloc (.cells #[.int .i64 z0, .int .i64 z1, .int .i64 z2, .int .i64 z3, .slice a1 st.length c1, .slice a2 fr.length c2, .slice a3 hd.length c3, .int .i64 sta, .int .u64 res, .int .i64 0] 45)).drewN nq) w.heap.size 45 [.int .i64 z0, .int .i64 z1, .int .i64 z2, .int .i64 z3, .slice a1 st.length c1, .slice a2 fr.length c2, .slice a3 hd.length c3, .int .i64 sta, .int .u64 res, .int .i64 0] from rowAt.made _ _ _)
              obtain ⟨X, hX⟩ : ∃ X, (w.alloc (.cells #[.int .i64 z0, .int .i64 z1, .int .i64 z2, .int .i64 z3, .slice a1 st.length c1, .slice a2 fr.length c2, .slice a3 hd.length c3, .int .i64 sta, .int .u64 res, .int .i64 0] 45)).drewN nq = X := ⟨_, rfl⟩
              rw [hX] at BX RX ⊢
              clear hX
              obtain ⟨d0, d1, d2, d3, d4, d5, d6, d7, d8, d9⟩ := cells10 RX.out
              go_wp2_with fail
              go_quiet ((go_at_call 42; refine Calls.quiet_of_same ((intF_0 _).mono fun e w' h => h)))
              go_wp2_with fail
              go_ret
              exact ⟨ret_bool E.out, down_drewN BX.out _⟩
          · skip
            by_cases f : fr.length = 0
            · skip
              have E := Lib.hid (show false = stG _ from (by (simp [stG, h, s2, s3, s8, r, c, f] <;> omega) : false = stG ⟨z0, z1, z2, z3, st, fr, hd, sta, res, cod⟩))
              have s2' : (sta == 2) = false := by simpa using s2
              have s3' : (sta == 3) = false := by simpa using s3
              have s8' : (sta == 8) = false := by simpa using s8
              have r' : (res != 1) = true := by simpa using r
              have c' : (cod != 0) = true := by simpa using c
              have f' : decide (0 < fr.length) = false := decide_eq_false (by omega)
              clear h s2 s3 s8 r c f
              go_enter Tryz.func49, Tryz.ntmps49
              go_wp2_with fail
              refine (within_is HB.out _).mono ?_
              rintro e w' ⟨rfl, rfl⟩
              go_wp2_with fail
              go_quiet (fail)
              rename_i nq
              have BX := Lib.hid (show Below w.heap.size w ((w.alloc (.cells #[.int .i64 z0, .int .i64 z1, .int .i64 z2, .int .i64 z3, .slice a1 st.length c1, .slice a2 fr.length c2, .slice a3 hd.length c3, .int .i64 sta, .int .u64 res, .int .i64 cod] 45)).drewN nq) from down_drewN (down_alloc (Below.refl _ _) _) _)
              have RX := Lib.hid (show rowAt ((w.alloc (.cells #[.int .i64 z0, .int .i64 z1, .int .i64 z2, .int .i64 z3, .slice a1 st.length c1, .slice a2 fr.length c2, .slice a3 hd.length c3, .int .i64 sta, .int .u64 res, .int .i64 cod] 45)).drewN nq) w.heap.size 45 [.int .i64 z0, .int .i64 z1, .int .i64 z2, .int .i64 z3, .slice a1 st.length c1, .slice a2 fr.length c2, .slice a3 hd.length c3, .int .i64 sta, .int .u64 res, .int .i64 cod] from rowAt.made _ _ _)
              obtain ⟨X, hX⟩ : ∃ X, (w.alloc (.cells #[.int .i64 z0, .int .i64 z1, .int .i64 z2, .int .i64 z3, .slice a1 st.length c1, .slice a2 fr.length c2, .slice a3 hd.length c3, .int .i64 sta, .int .u64 res, .int .i64 cod] 45)).drewN nq = X := ⟨_, rfl⟩
              rw [hX] at BX RX ⊢
              clear hX
              obtain ⟨d0, d1, d2, d3, d4, d5, d6, d7, d8, d9⟩ := cells10 RX.out
              go_wp2_with fail
              go_quiet ((go_at_call 42; refine Calls.quiet_of_same ((intF_0 _).mono fun e w' h => h)))
              go_wp2_with fail
              go_ret
              exact ⟨ret_bool E.out, down_drewN BX.out _⟩
            · skip
              have E := Lib.hid (show false = stG _ from (by (simp [stG, h, s2, s3, s8, r, c, f] <;> omega) : false = stG ⟨z0, z1, z2, z3, st, fr, hd, sta, res, cod⟩))
              have s2' : (sta == 2) = false := by simpa using s2
              have s3' : (sta == 3) = false := by simpa using s3
              have s8' : (sta == 8) = false := by simpa using s8
              have r' : (res != 1) = true := by simpa using r
              have c' : (cod != 0) = true := by simpa using c
              have f' : 0 < fr.length := by omega
              clear h s2 s3 s8 r c f
              go_enter Tryz.func49, Tryz.ntmps49
              go_wp2_with fail
              refine (within_is HB.out _).mono ?_
              rintro e w' ⟨rfl, rfl⟩
              go_wp2_with fail
              go_quiet (fail)
              rename_i nq
              have BX := Lib.hid (show Below w.heap.size w ((w.alloc (.cells #[.int .i64 z0, .int .i64 z1, .int .i64 z2, .int .i64 z3, .slice a1 st.length c1, .slice a2 fr.length c2, .slice a3 hd.length c3, .int .i64 sta, .int .u64 res, .int .i64 cod] 45)).drewN nq) from down_drewN (down_alloc (Below.refl _ _) _) _)
              have RX := Lib.hid (show rowAt ((w.alloc (.cells #[.int .i64 z0, .int .i64 z1, .int .i64 z2, .int .i64 z3, .slice a1 st.length c1, .slice a2 fr.length c2, .slice a3 hd.length c3, .int .i64 sta, .int .u64 res, .int .i64 cod] 45)).drewN nq) w.heap.size 45 [.int .i64 z0, .int .i64 z1, .int .i64 z2, .int .i64 z3, .slice a1 st.length c1, .slice a2 fr.length c2, .slice a3 hd.length c3, .int .i64 sta, .int .u64 res, .int .i64 cod] from rowAt.made _ _ _)
              obtain ⟨X, hX⟩ : ∃ X, (w.alloc (.cells #[.int .i64 z0, .int .i64 z1, .int .i64 z2, .int .i64 z3, .slice a1 st.length c1, .slice a2 fr.length c2, .slice a3 hd.length c3, .int .i64 sta, .int .u64 res, .int .i64 cod] 45)).drewN nq = X := ⟨_, rfl⟩
              rw [hX] at BX RX ⊢
              clear hX
              obtain ⟨d0, d1, d2, d3, d4, d5, d6, d7, d8, d9⟩ := cells10 RX.out
              go_wp2_with fail
              go_quiet ((go_at_call 42; refine Calls.quiet_of_same ((intF_0 _).mono fun e w' h => h)))
              go_wp2_with fail
              go_ret
              exact ⟨ret_bool E.out, down_drewN BX.out _⟩

theorem goodState_is {S : Nat → Prop} {w : World} {s f h : Value} {M : PMa} {b : Bool} (hb : stG M = b) (k : maAt S w s f h M) :
    Calls Tryz.prog 49 #[maV M.z0 M.z1 M.z2 M.z3 s f h M.state M.res M.code] w fun e w' => e = .returned (.bool b) ∧ Below w.heap.size w w' := by
  obtain ⟨z0, z1, z2, z3, st, fr, hd, sta, res, cod⟩ := M
  obtain ⟨a1, c1, rfl⟩ := k.1.slice
  obtain ⟨a2, c2, rfl⟩ := k.2.1.slice
  obtain ⟨a3, c3, rfl⟩ := k.2.2.slice
  subst hb
  cases h : inF sta 0 8
  · exact goodState_no h
  · exact goodState_yes h
end Go.Proofs.YtajkkinolpkfmaaGreatDoor

/-
  The statements' own helpers over machines: keep.Machine of two that read as one; LargeMachine.
  Conditions: as each states.
-/
namespace Go.Proofs.YtajkkinolpkfmaaGreatDoor
set_option linter.unusedVariables false
set_option linter.unusedSimpArgs false
open Go.ChangeShapes Go.WideShapes Go.ChangeAt Go.RowKit
set_option maxRecDepth 100000

theorem run_heap_same (w : World) (x0 x1 x2 x3 : Int) : (Op.equalIn 10000 39 (.agg #[.int .i64 x0, .int .i64 x1, .int .i64 x2, .int .i64 x3]) (.agg #[.int .i64 x0, .int .i64 x1, .int .i64 x2, .int .i64 x3])).run Tryz.prog w = .ok true w := by
  have hu := Tryz.underlying39
  have he : Tryz.prog.underlying 3 = some (.int .i64) := by kernel_rfl
  have he8 : Tryz.prog.underlying 43 = some (.int .u64) := by kernel_rfl
  have hf : ∃ f0 f1 f2 f3 : Field, (Tryz.prog.fieldsOf 39).toList = [f0, f1, f2, f3] ∧ f0.name ≠ "_" ∧ f1.name ≠ "_" ∧ f2.name ≠ "_" ∧ f3.name ≠ "_" ∧ f0.type = 3 ∧ f1.type = 3 ∧ f2.type = 3 ∧ f3.type = 3 ∧ f0.offset = 0 ∧ f1.offset = 1 ∧ f2.offset = 2 ∧ f3.offset = 3 := by
    refine ⟨_, _, _, _, (by unfold Program.fieldsOf; rw [hu]), by decide, by decide, by decide, by decide, rfl, rfl, rfl, rfl, rfl, rfl, rfl, rfl⟩
  obtain ⟨f0, f1, f2, f3, hl, n0, n1, n2, n3, t0, t1, t2, t3, o0, o1, o2, o3⟩ := hf
  have p0 : ∀ w, (part 3 #[.int .i64 x0, .int .i64 x1, .int .i64 x2, .int .i64 x3] 0).run Tryz.prog w = .ok (.int .i64 x0) w := fun w => by kernel_rfl
  have p1 : ∀ w, (part 3 #[.int .i64 x0, .int .i64 x1, .int .i64 x2, .int .i64 x3] 1).run Tryz.prog w = .ok (.int .i64 x1) w := fun w => by kernel_rfl
  have p2 : ∀ w, (part 3 #[.int .i64 x0, .int .i64 x1, .int .i64 x2, .int .i64 x3] 2).run Tryz.prog w = .ok (.int .i64 x2) w := fun w => by kernel_rfl
  have p3 : ∀ w, (part 3 #[.int .i64 x0, .int .i64 x1, .int .i64 x2, .int .i64 x3] 3).run Tryz.prog w = .ok (.int .i64 x3) w := fun w => by kernel_rfl
  rw [run_equalIn_struct w 9999 39 _ _ (by rw [hu]; unfold Program.fieldsOf; rw [hu]) (by kernel_rfl), hl]
  simp only [Op.eqFields, n0, n1, n2, n3, t0, t1, t2, t3, o0, o1, o2, o3, ne_eq, not_false_eq_true, if_true, Sem.run_bind, p0, p1, p2, p3, Result.andThen_ok, run_equalIn_int _ 9998 _ _ _ _ _ he, run_equalIn_int _ 9998 _ _ _ _ _ he8, beq_self_eq_true]
  simp [p0, p1, p2, p3, run_equalIn_int _ 9998 _ _ _ _ _ he, run_equalIn_int _ 9998 _ _ _ _ _ he8, Sem.run_pure]

theorem run_frame_same (w : World) (x0 x1 x2 x3 : Int) : (Op.equalIn 10000 65 (.agg #[.int .i64 x0, .int .i64 x1, .int .i64 x2, .int .u64 x3]) (.agg #[.int .i64 x0, .int .i64 x1, .int .i64 x2, .int .u64 x3])).run Tryz.prog w = .ok true w := by
  have hu := Tryz.underlying65
  have he : Tryz.prog.underlying 3 = some (.int .i64) := by kernel_rfl
  have he8 : Tryz.prog.underlying 43 = some (.int .u64) := by kernel_rfl
  have hf : ∃ f0 f1 f2 f3 : Field, (Tryz.prog.fieldsOf 65).toList = [f0, f1, f2, f3] ∧ f0.name ≠ "_" ∧ f1.name ≠ "_" ∧ f2.name ≠ "_" ∧ f3.name ≠ "_" ∧ f0.type = 3 ∧ f1.type = 3 ∧ f2.type = 3 ∧ f3.type = 43 ∧ f0.offset = 0 ∧ f1.offset = 1 ∧ f2.offset = 2 ∧ f3.offset = 3 := by
    refine ⟨_, _, _, _, (by unfold Program.fieldsOf; rw [hu]), by decide, by decide, by decide, by decide, rfl, rfl, rfl, rfl, rfl, rfl, rfl, rfl⟩
  obtain ⟨f0, f1, f2, f3, hl, n0, n1, n2, n3, t0, t1, t2, t3, o0, o1, o2, o3⟩ := hf
  have p0 : ∀ w, (part 3 #[.int .i64 x0, .int .i64 x1, .int .i64 x2, .int .u64 x3] 0).run Tryz.prog w = .ok (.int .i64 x0) w := fun w => by kernel_rfl
  have p1 : ∀ w, (part 3 #[.int .i64 x0, .int .i64 x1, .int .i64 x2, .int .u64 x3] 1).run Tryz.prog w = .ok (.int .i64 x1) w := fun w => by kernel_rfl
  have p2 : ∀ w, (part 3 #[.int .i64 x0, .int .i64 x1, .int .i64 x2, .int .u64 x3] 2).run Tryz.prog w = .ok (.int .i64 x2) w := fun w => by kernel_rfl
  have p3 : ∀ w, (part 43 #[.int .i64 x0, .int .i64 x1, .int .i64 x2, .int .u64 x3] 3).run Tryz.prog w = .ok (.int .u64 x3) w := fun w => by kernel_rfl
  rw [run_equalIn_struct w 9999 65 _ _ (by rw [hu]; unfold Program.fieldsOf; rw [hu]) (by kernel_rfl), hl]
  simp only [Op.eqFields, n0, n1, n2, n3, t0, t1, t2, t3, o0, o1, o2, o3, ne_eq, not_false_eq_true, if_true, Sem.run_bind, p0, p1, p2, p3, Result.andThen_ok, run_equalIn_int _ 9998 _ _ _ _ _ he, run_equalIn_int _ 9998 _ _ _ _ _ he8, beq_self_eq_true]
  simp [p0, p1, p2, p3, run_equalIn_int _ 9998 _ _ _ _ _ he, run_equalIn_int _ 9998 _ _ _ _ _ he8, Sem.run_pure]

theorem run_hand_same (w : World) (x0 x1 x2 : Int) : (Op.equalIn 10000 63 (.agg #[.int .i64 x0, .int .i64 x1, .int .i64 x2]) (.agg #[.int .i64 x0, .int .i64 x1, .int .i64 x2])).run Tryz.prog w = .ok true w := by
  have hu := Tryz.underlying63
  have he : Tryz.prog.underlying 3 = some (.int .i64) := by kernel_rfl
  have he8 : Tryz.prog.underlying 43 = some (.int .u64) := by kernel_rfl
  have hf : ∃ f0 f1 f2 : Field, (Tryz.prog.fieldsOf 63).toList = [f0, f1, f2] ∧ f0.name ≠ "_" ∧ f1.name ≠ "_" ∧ f2.name ≠ "_" ∧ f0.type = 3 ∧ f1.type = 3 ∧ f2.type = 3 ∧ f0.offset = 0 ∧ f1.offset = 1 ∧ f2.offset = 2 := by
    refine ⟨_, _, _, (by unfold Program.fieldsOf; rw [hu]), by decide, by decide, by decide, rfl, rfl, rfl, rfl, rfl, rfl⟩
  obtain ⟨f0, f1, f2, hl, n0, n1, n2, t0, t1, t2, o0, o1, o2⟩ := hf
  have p0 : ∀ w, (part 3 #[.int .i64 x0, .int .i64 x1, .int .i64 x2] 0).run Tryz.prog w = .ok (.int .i64 x0) w := fun w => by kernel_rfl
  have p1 : ∀ w, (part 3 #[.int .i64 x0, .int .i64 x1, .int .i64 x2] 1).run Tryz.prog w = .ok (.int .i64 x1) w := fun w => by kernel_rfl
  have p2 : ∀ w, (part 3 #[.int .i64 x0, .int .i64 x1, .int .i64 x2] 2).run Tryz.prog w = .ok (.int .i64 x2) w := fun w => by kernel_rfl
  rw [run_equalIn_struct w 9999 63 _ _ (by rw [hu]; unfold Program.fieldsOf; rw [hu]) (by kernel_rfl), hl]
  simp only [Op.eqFields, n0, n1, n2, t0, t1, t2, o0, o1, o2, ne_eq, not_false_eq_true, if_true, Sem.run_bind, p0, p1, p2, Result.andThen_ok, run_equalIn_int _ 9998 _ _ _ _ _ he, run_equalIn_int _ 9998 _ _ _ _ _ he8, beq_self_eq_true]
  simp [p0, p1, p2, run_equalIn_int _ 9998 _ _ _ _ _ he, run_equalIn_int _ 9998 _ _ _ _ _ he8, Sem.run_pure]

theorem keepWordsM_is {w : World} {u v : Value} {xs : List Int} (hu : readsAt w u xs.length (wdL xs)) (hv : readsAt w v xs.length (wdL xs)) (hx : xs.length ≤ 140737488355328) :
    Calls Tryz.prog 23 #[u, v] w fun e w' => e = .returned (.bool true) ∧ ∃ q, w' = w.drewN q := (keepWords_any hu hv hx).mono fun e w' h => by simpa using h
theorem rd_readsM {S : Nat → Prop} {w : World} {v : Value} {n : Nat} {cs : List Value} (h : rdAt S w v n cs) : readsAt w v n cs := by
  obtain ⟨a, c, rfl, h⟩ := h
  exact ⟨a, c, rfl, h.imp id fun ⟨b, o, h1, _, _, h4⟩ => ⟨b, o, h1, h4⟩⟩
theorem rd_atM {S : Nat → Prop} {w : World} {a : Option Addr} {n c m : Nat} {cs : List Value} (h : rdAt S w (.slice a n c) m cs) (h0 : m ≠ 0) : ∃ b o, a = some ⟨b, o, none⟩ ∧ ∀ j u, cs[j]? = some u → w.cell? ⟨b, o + j, none⟩ = some u := by
  obtain ⟨a', c', e, h⟩ := h
  injection e with e1 e2 e3
  subst e1
  rcases h with h | ⟨b, o, h1, -, -, h4⟩
  · exact absurd h h0
  · exact ⟨b, o, h1, h4⟩
set_option maxHeartbeats 4000000 in
theorem keepMachine_same {S S' : Nat → Prop} {w : World} {s f h s' f' h' : Value} (M : PMa) (k : maAt S w s f h M) (k' : maAt S' w s' f' h' M) (hF : maF M) :
    Calls Tryz.prog 15 #[maV M.z0 M.z1 M.z2 M.z3 s f h M.state M.res M.code, maV M.z0 M.z1 M.z2 M.z3 s' f' h' M.state M.res M.code] w fun e w' => e = .returned (.bool true) ∧ Below w.heap.size w w' := by
  obtain ⟨z0, z1, z2, z3, st, fr, hd, sta, res, cod⟩ := M
  obtain ⟨k1, k2, k3⟩ := k
  obtain ⟨k4, k5, k6⟩ := k'
  obtain ⟨a1, c1, rfl⟩ := k1.slice
  obtain ⟨a2, c2, rfl⟩ := k2.slice
  obtain ⟨a3, c3, rfl⟩ := k3.slice
  obtain ⟨b1, e1, rfl⟩ := k4.slice
  obtain ⟨b2, e2, rfl⟩ := k5.slice
  obtain ⟨b3, e3, rfl⟩ := k6.slice
  have N1 := Lib.hid (show st.length ≤ 100000 from hF.n1)
  have N2 := Lib.hid (show fr.length ≤ 100000 from hF.n2)
  have N3 := Lib.hid (show hd.length ≤ 100000 from hF.n3)
  obtain ⟨W, hW⟩ : ∃ W, (w.alloc (.cells #[.int .i64 z0, .int .i64 z1, .int .i64 z2, .int .i64 z3, .slice a1 st.length c1, .slice a2 fr.length c2, .slice a3 hd.length c3, .int .i64 sta, .int .u64 res, .int .i64 cod] 45)).alloc (.cells #[.int .i64 z0, .int .i64 z1, .int .i64 z2, .int .i64 z3, .slice b1 st.length e1, .slice b2 fr.length e2, .slice b3 hd.length e3, .int .i64 sta, .int .u64 res, .int .i64 cod] 45) = W := ⟨_, rfl⟩
  have BW := Lib.hid (show Below w.heap.size w W by rw [← hW]; exact down_alloc (down_alloc (Below.refl _ _) _) _)
  have R1 : rowAt W w.heap.size 45 [.int .i64 z0, .int .i64 z1, .int .i64 z2, .int .i64 z3, .slice a1 st.length c1, .slice a2 fr.length c2, .slice a3 hd.length c3, .int .i64 sta, .int .u64 res, .int .i64 cod] := by rw [← hW]; exact (rowAt.made w 45 _).alloc _
  have R2 : rowAt W (w.heap.size + 1) 45 [.int .i64 z0, .int .i64 z1, .int .i64 z2, .int .i64 z3, .slice b1 st.length e1, .slice b2 fr.length e2, .slice b3 hd.length e3, .int .i64 sta, .int .u64 res, .int .i64 cod] := by rw [← hW]; exact rowAt.made_at (w := w.alloc (.cells #[.int .i64 z0, .int .i64 z1, .int .i64 z2, .int .i64 z3, .slice a1 st.length c1, .slice a2 fr.length c2, .slice a3 hd.length c3, .int .i64 sta, .int .u64 res, .int .i64 cod] 45)) (b := w.heap.size + 1) 45 [.int .i64 z0, .int .i64 z1, .int .i64 z2, .int .i64 z3, .slice b1 st.length e1, .slice b2 fr.length e2, .slice b3 hd.length e3, .int .i64 sta, .int .u64 res, .int .i64 cod] (by simp)
  have A1 := Lib.hid (rd_readsM (k1.below BW.out))
  have A2 := Lib.hid (k2.below BW.out)
  have A3 := Lib.hid (k3.below BW.out)
  have B1 := Lib.hid (rd_readsM (k4.below BW.out))
  have B2 := Lib.hid (k5.below BW.out)
  have B3 := Lib.hid (k6.below BW.out)
  obtain ⟨x0, x1, x2, x3, x4, x5, x6, x7, x8, x9⟩ := cells10 R1
  obtain ⟨y0, y1, y2, y3, y4, y5, y6, y7, y8, y9⟩ := cells10 R2
  have g0 : ∀ w, (Op.equalIn 10000 39 (.agg #[.int .i64 z0, .int .i64 z1, .int .i64 z2, .int .i64 z3]) (.agg #[.int .i64 z0, .int .i64 z1, .int .i64 z2, .int .i64 z3])).run Tryz.prog w = .ok true w := fun w => run_heap_same w z0 z1 z2 z3
  clear k1 k2 k3 k4 k5 k6 hF R1 R2
  go_enter Tryz.func15, Tryz.ntmps15
  go_wp2_with fail
  refine (keepWordsM_is A1.out B1.out (by have := N1.out; omega)).mono ?_
  rintro e w1 ⟨rfl, q, rfl⟩
  go_wp2_with fail
  clear hW
  go_loopw [5] (fun i wr => ∃ k q : Nat, k ≤ fr.length ∧ i = .int .i64 k ∧ wr = W.drewN q) (fun i _ => fr.length - (intOf i).toNat)
  case atStart => exact ⟨0, q, Nat.zero_le _, rfl, rfl⟩
  case round =>
    obtain ⟨k, q, hk, rfl, rfl⟩ := hrel
    have n2 : fr.length ≤ 100000 := N2.out
    by_cases hlt : k < fr.length
    · obtain ⟨b, o, rfl, hc⟩ := rd_atM A2.out (by omega)
      obtain ⟨b', o', rfl, hc'⟩ := rd_atM B2.out (by omega)
      obtain ⟨x, hx⟩ : ∃ x, fr[k]? = some x := ⟨_, List.getElem?_eq_getElem hlt⟩
      obtain ⟨g0', g1', g2', g3'⟩ := frL_get fr k x hx
      have i0 : W.cell? ⟨b, o + k * 4, none⟩ = some (.int .i64 x.1) := hc _ _ g0'
      have i1 : W.cell? ⟨b, o + k * 4 + 1, none⟩ = some (.int .i64 x.2.1) := hc _ _ g1'
      have i2 : W.cell? ⟨b, o + k * 4 + 2, none⟩ = some (.int .i64 x.2.2.1) := hc _ _ g2'
      have i3 : W.cell? ⟨b, o + k * 4 + 3, none⟩ = some (.int .u64 x.2.2.2) := hc _ _ g3'
      have j0 : W.cell? ⟨b', o' + k * 4, none⟩ = some (.int .i64 x.1) := hc' _ _ g0'
      have j1 : W.cell? ⟨b', o' + k * 4 + 1, none⟩ = some (.int .i64 x.2.1) := hc' _ _ g1'
      have j2 : W.cell? ⟨b', o' + k * 4 + 2, none⟩ = some (.int .i64 x.2.2.1) := hc' _ _ g2'
      have j3 : W.cell? ⟨b', o' + k * 4 + 3, none⟩ = some (.int .u64 x.2.2.2) := hc' _ _ g3'
      have q1 : ∀ w, (Op.equalIn 10000 65 (.agg #[.int .i64 x.1, .int .i64 x.2.1, .int .i64 x.2.2.1, .int .u64 x.2.2.2]) (.agg #[.int .i64 x.1, .int .i64 x.2.1, .int .i64 x.2.2.1, .int .u64 x.2.2.2])).run Tryz.prog w = .ok true w := fun w => run_frame_same w _ _ _ _
      clear hc hc' hx g0' g1' g2' g3'
      go_wp2_with fail
      go_quiet (fail)
      go_wp2_with fail
      go_roundw
      case rel => exact ⟨k + 1, _, by omega, by go_num, rfl⟩
      case measure => simp [intOf]; omega
    · obtain rfl : k = fr.length := by omega
      go_wp2_with fail
      go_loopw [6] (fun i wr => ∃ k q : Nat, k ≤ hd.length ∧ i = .int .i64 k ∧ wr = W.drewN q) (fun i _ => hd.length - (intOf i).toNat)
      case atStart => exact ⟨0, q, Nat.zero_le _, rfl, rfl⟩
      case round =>
        obtain ⟨k, q, hk, rfl, rfl⟩ := hrel
        have n3 : hd.length ≤ 100000 := N3.out
        by_cases hlt : k < hd.length
        · obtain ⟨b, o, rfl, hc⟩ := rd_atM A3.out (by omega)
          obtain ⟨b', o', rfl, hc'⟩ := rd_atM B3.out (by omega)
          obtain ⟨x, hx⟩ : ∃ x, hd[k]? = some x := ⟨_, List.getElem?_eq_getElem hlt⟩
          obtain ⟨g0', g1', g2'⟩ := hdL_get hd k x hx
          have i0 : W.cell? ⟨b, o + k * 3, none⟩ = some (.int .i64 x.1) := hc _ _ g0'
          have i1 : W.cell? ⟨b, o + k * 3 + 1, none⟩ = some (.int .i64 x.2.1) := hc _ _ g1'
          have i2 : W.cell? ⟨b, o + k * 3 + 2, none⟩ = some (.int .i64 x.2.2) := hc _ _ g2'
          have j0 : W.cell? ⟨b', o' + k * 3, none⟩ = some (.int .i64 x.1) := hc' _ _ g0'
          have j1 : W.cell? ⟨b', o' + k * 3 + 1, none⟩ = some (.int .i64 x.2.1) := hc' _ _ g1'
          have j2 : W.cell? ⟨b', o' + k * 3 + 2, none⟩ = some (.int .i64 x.2.2) := hc' _ _ g2'
          have q1 : ∀ w, (Op.equalIn 10000 63 (.agg #[.int .i64 x.1, .int .i64 x.2.1, .int .i64 x.2.2]) (.agg #[.int .i64 x.1, .int .i64 x.2.1, .int .i64 x.2.2])).run Tryz.prog w = .ok true w := fun w => run_hand_same w _ _ _
          clear hc hc' hx g0' g1' g2'
          go_wp2_with fail
          go_quiet (fail)
          go_wp2_with fail
          go_roundw
          case rel => exact ⟨k + 1, _, by omega, by go_num, rfl⟩
          case measure => simp [intOf]; omega
        · obtain rfl : k = hd.length := by omega
          go_wp2_with fail
          go_ret
          exact ⟨rfl, down_drewN BW.out _⟩

def largeMa (M : PMa) : Bool := decide (400 < M.st.length) || (decide (120 < M.fr.length) || decide (100 < M.hd.length))
theorem largeMachine_is {S : Nat → Prop} {w : World} {s f h : Value} {M : PMa} {b : Bool} (hb : largeMa M = b) (k : maAt S w s f h M) :
    Calls Tryz.prog 11 #[maV M.z0 M.z1 M.z2 M.z3 s f h M.state M.res M.code] w fun e w' => e = .returned (.bool b) ∧ Below w.heap.size w w' := by
  obtain ⟨z0, z1, z2, z3, st, fr, hd, sta, res, cod⟩ := M
  obtain ⟨a1, c1, rfl⟩ := k.1.slice
  obtain ⟨a2, c2, rfl⟩ := k.2.1.slice
  obtain ⟨a3, c3, rfl⟩ := k.2.2.slice
  clear k
  have b0 : ∀ o, Hid (Below w.heap.size w (w.alloc o)) := fun o => Lib.hid (down_alloc (Below.refl _ _) _)
  simp only [largeMa] at hb ⊢
  by_cases h1 : 400 < st.length
  · obtain rfl : b = true := by rw [← hb]; simp [h1]
    have t1 : decide ((400 : Int) < (st.length : Int)) = true := decide_eq_true (by omega)
    clear hb
    go_enter Tryz.func11, Tryz.ntmps11
    go_wp2_with fail
    go_ret
    exact ⟨rfl, (b0 _).out⟩
  · have t1 : decide ((400 : Int) < (st.length : Int)) = false := decide_eq_false (by omega)
    by_cases h2 : 120 < fr.length
    · obtain rfl : b = true := by rw [← hb]; simp [h2]
      have t2 : decide ((120 : Int) < (fr.length : Int)) = true := decide_eq_true (by omega)
      clear hb
      go_enter Tryz.func11, Tryz.ntmps11
      go_wp2_with fail
      go_ret
      exact ⟨rfl, (b0 _).out⟩
    · have t2 : decide ((120 : Int) < (fr.length : Int)) = false := decide_eq_false (by omega)
      by_cases h3 : 100 < hd.length
      · obtain rfl : b = true := by rw [← hb]; simp [h3]
        have t3 : decide ((100 : Int) < (hd.length : Int)) = true := decide_eq_true (by omega)
        clear hb
        go_enter Tryz.func11, Tryz.ntmps11
        go_wp2_with fail
        go_ret
        exact ⟨rfl, (b0 _).out⟩
      · obtain rfl : b = false := by rw [← hb]; simp [h1, h2, h3]
        have t3 : decide ((100 : Int) < (hd.length : Int)) = false := decide_eq_false (by omega)
        clear hb
        go_enter Tryz.func11, Tryz.ntmps11
        go_wp2_with fail
        go_ret
        exact ⟨rfl, (b0 _).out⟩
end Go.Proofs.YtajkkinolpkfmaaGreatDoor

/-
  A law's argument that is a program, or a slice of bytes: as plain data, in memory; no list of it longer than memory's reach.
  Conditions: as each states.
-/
namespace Go.Proofs.YtajkkinolpkfmaaGreatDoor
set_option linter.unusedVariables false
set_option linter.unusedSimpArgs false
open Go.ChangeShapes Go.WideShapes Go.ChangeAt Go.RowKit Go.Deep
set_option maxRecDepth 100000

section
variable {H : Type} {enc : TypeId × Value → H} {P : Program} {w : World} {base : Nat} {spare : Nat → Bool} {held : Bool}

/-- Nothing of it is longer than memory's reach. -/
def WB (P : Program) (t : TypeId) (d : DataW H) : Prop := ∀ n ∈ d.weights P t, n ≤ reachBytes
theorem wb_all {e : TypeId} : ∀ (l : List (DataW H)) (d : DataW H), d ∈ l → ∀ n ∈ d.weights P e, n ∈ DataW.weightsAll P e l
  | [], d, h, _, _ => by cases h
  | x :: l, d, h, n, hn => by
    simp only [DataW.weightsAll, List.mem_append]
    rcases List.mem_cons.1 h with rfl | h
    · exact .inl hn
    · exact .inr (wb_all l d h n hn)
theorem wb_len {t e : TypeId} {elems rest : List (DataW H)} (hu : P.underlying t = some (.slice e)) (h : WB P t (.slice elems rest)) (hB : 1 ≤ P.bytesOf e) : elems.length ≤ reachBytes := by
  have := h ((elems.length + rest.length) * P.bytesOf e) (by simp [DataW.weights, hu])
  have h2 : (elems.length + rest.length) * 1 ≤ (elems.length + rest.length) * P.bytesOf e := Nat.mul_le_mul_left _ hB
  omega
theorem wb_el {t e : TypeId} {elems rest : List (DataW H)} (hu : P.underlying t = some (.slice e)) (h : WB P t (.slice elems rest)) {d : DataW H} (hd : d ∈ elems) : WB P e d := fun n hn =>
  h n (by simp only [DataW.weights, hu, List.mem_cons, List.mem_append]; exact .inr (.inl (wb_all _ _ hd n hn)))
theorem wb_part {t : TypeId} {fs : Array Field} {parts : List (DataW H)} (hu : P.underlying t = some (.struct fs)) (h : WB P t (.agg parts)) {j : Nat} {f : Field} {d : DataW H} (hj : fs[j]? = some f) (hd : parts[j]? = some d) : WB P f.type d := fun n hn =>
  h n (by
    simp only [DataW.weights, hu]
    exact DataW.weights_mem_each (j := j) (t := f.type) (by rw [List.getElem?_map]; simp [hj]) hd n hn)

theorem wb_of {ts ts' : List TypeId} {ds gs : List (DataW H)} (hz : (DataW.weightsEach P (ts ++ ts') (ds ++ gs)).all (· ≤ reachBytes) = true) {j : Nat} {t : TypeId} {d : DataW H} (ht : ts[j]? = some t) (hd : ds[j]? = some d) : WB P t d := fun n hn => by
  have h1 : (ts ++ ts')[j]? = some t := by rw [List.getElem?_append_left (List.getElem?_eq_some_iff.1 ht).1]; exact ht
  have h2 : (ds ++ gs)[j]? = some d := by rw [List.getElem?_append_left (List.getElem?_eq_some_iff.1 hd).1]; exact hd
  have := List.all_eq_true.1 hz n (DataW.weights_mem_each h1 h2 n hn)
  simpa using this

theorem open_slice_gen {t e : TypeId} {α : Type} {C : Nat} {R : List Value → α → Prop} (ht : P.underlying t = some (.slice e)) (hC : P.cellsOf e = C) (hC0 : 0 < C) (hB : 1 ≤ P.bytesOf e) {cs : List Value} {fuel : Nat} {x : DataW H × List MemPlace} (hw : WB P t x.1)
    (hf : DataW.trod enc P w base spare held fuel t cs = some x)
    (hel : ∀ (fuel : Nat) (vs : List Value) (y : DataW H × List MemPlace), WB P e y.1 → vs.length = C → DataW.trod enc P w base spare held fuel e vs = some y → ∃ x : α, R vs x) :
    ∃ (a : Option Addr) (c : Nat) (xs : List α), cs = [.slice a xs.length c] ∧ xs.length ≤ c ∧ c ≤ maxLen ∧ xs.length ≤ reachBytes ∧ (∀ x ∈ xs, ∃ vs, vs.length = C ∧ R vs x) ∧
      (xs.length = 0 ∨ ∃ b o, a = some ⟨b, o, none⟩ ∧ ∀ i x, xs[i]? = some x → ∃ vs, vs.length = C ∧ R vs x ∧ ∀ j u, vs[j]? = some u → w.cell? ⟨b, o + (i * C + j), none⟩ = some u) := by
  rcases DataW.trod_slice ht hf with ⟨h1, _⟩ | ⟨a, len, cap, el, re, n, _, h1, hx, hb, hl, hm, hlen, hall, _⟩
  · exact ⟨none, 0, [], h1, Nat.le_refl _, Nat.zero_le _, Nat.zero_le _, fun x hx => (by cases hx), .inl rfl⟩
  · have hwx : WB P t (.slice (el.map (·.1)) (re.map (·.1))) := by rw [hx] at hw; exact hw
    have hlr := wb_len ht hwx hB
    rw [List.length_map, hlen] at hlr
    have each : ∀ i, i < len → ∃ (x : α) (vs : List Value), vs.length = C ∧ R vs x ∧ ∀ j u, vs[j]? = some u → w.cell? (a.add (i * C + j)) = some u := by
      intro i hi
      have h2 := hall i hi
      rw [hC, List.getElem?_eq_getElem (by omega)] at h2
      cases hc : w.cells? base (a.add (i * C)) C with
      | none => rw [hc] at h2; simp at h2
      | some vs =>
        rw [hc] at h2
        simp only [Option.bind_some] at h2
        obtain ⟨_, hcl, hat⟩ := World.cells?_some hc
        obtain ⟨x, hR⟩ := hel n vs _ (wb_el ht hwx (List.mem_map_of_mem (List.getElem_mem (by omega : i < el.length)))) hcl h2
        refine ⟨x, vs, hcl, hR, fun j u hj => ?_⟩
        have hjl := (List.getElem?_eq_some_iff.1 hj).1
        rw [← Go.Deep.add_add, hat j (by omega), hj]
    let f : Fin len → α := fun i => Classical.choose (each i.1 i.2)
    have hff : ∀ i : Fin len, ∃ vs, vs.length = C ∧ R vs (f i) ∧ ∀ j u, vs[j]? = some u → w.cell? (a.add (i.1 * C + j)) = some u := fun i => Classical.choose_spec (each i.1 i.2)
    have hfl : (List.ofFn f).length = len := List.length_ofFn
    refine ⟨some a, cap, List.ofFn f, by rw [hfl]; exact h1, by omega, hm, by omega, fun x hx => ?_, ?_⟩
    · obtain ⟨i, rfl⟩ := List.mem_ofFn.1 hx
      obtain ⟨vs, h3, h4, _⟩ := hff i
      exact ⟨vs, h3, h4⟩
    · by_cases h0 : len = 0
      · exact .inl (by omega)
      · obtain ⟨vs0, v1, v2, v3⟩ := hff ⟨0, by omega⟩
        have hs : (w.cell? (a.add 0)).isSome = true := by
          have := v3 0 vs0[0] (List.getElem?_eq_getElem (by omega))
          simp only [Nat.zero_mul, Nat.zero_add] at this
          rw [this]; rfl
        refine .inr ⟨a.block, a.off, congrArg some (eta_of_cell hs), fun i x hx => ?_⟩
        have hi : i < len := by have := (List.getElem?_eq_some_iff.1 hx).1; omega
        have hxe : f ⟨i, hi⟩ = x := by
          rw [List.getElem?_eq_getElem (by omega), List.getElem_ofFn] at hx
          exact Option.some.inj hx
        obtain ⟨vs, h3, h4, h5⟩ := hff ⟨i, hi⟩
        rw [hxe] at h4
        exact ⟨vs, h3, h4, fun j u hj => add_of_cell hs (h5 j u hj)⟩

theorem gen_rd {α : Type} {C : Nat} {f : α → List Value} (hf : ∀ x, (f x).length = C) {a : Option Addr} {c : Nat} {xs : List α} (hC : 0 < C) (h : xs.length = 0 ∨ ∃ b o, a = some ⟨b, o, none⟩ ∧ ∀ i x, xs[i]? = some x → ∀ j u, (f x)[j]? = some u → w.cell? ⟨b, o + (i * C + j), none⟩ = some u) :
    rdAt (fun _ => False) w (.slice a xs.length c) xs.length (xs.flatMap f) := by
  refine ⟨a, c, rfl, ?_⟩
  rcases h with h | ⟨b, o, rfl, h⟩
  · exact .inl h
  · by_cases h0 : xs.length = 0
    · exact .inl h0
    · have hx0 : xs[0]? = some (xs[0]'(by omega)) := List.getElem?_eq_getElem (by omega)
      have hc0 := h 0 _ hx0 0 _ (List.getElem?_eq_getElem (by rw [hf]; exact hC))
      refine .inr ⟨b, o, rfl, fun t => t, World.block_lt_of_cell? w _ hc0, fun j u hj => ?_⟩
      have hlen : ∀ (l : List α), (l.flatMap f).length = l.length * C := fun l => by
        induction l with
        | nil => simp
        | cons x l ih => rw [List.flatMap_cons, List.length_append, hf, ih, List.length_cons, Nat.add_mul]; omega
      have hjl : j < xs.length * C := by rw [← hlen]; exact (List.getElem?_eq_some_iff.1 hj).1
      have hi : j / C < xs.length := Nat.div_lt_of_lt_mul (by rw [Nat.mul_comm]; exact hjl)
      have hm : j % C < C := Nat.mod_lt _ hC
      have hjj : j / C * C + j % C = j := by rw [Nat.mul_comm]; exact Nat.div_add_mod j C
      have hx : xs[j / C]? = some xs[j / C] := List.getElem?_eq_getElem hi
      have key : ∀ (l : List α) (k : Nat) (x : α) (i : Nat), l[k]? = some x → i < C → (l.flatMap f)[k * C + i]? = (f x)[i]? := by
        intro l
        induction l with
        | nil => intro k x i h _; simp at h
        | cons y l ih =>
          intro k x i h hi
          cases k with
          | zero =>
            simp at h; subst h
            rw [List.flatMap_cons, Nat.zero_mul, Nat.zero_add, List.getElem?_append_left (by rw [hf]; exact hi)]
          | succ k =>
            have := ih k x i (by simpa using h) hi
            rw [List.flatMap_cons, List.getElem?_append_right (by rw [hf, Nat.add_mul]; omega), hf, ← this]
            congr 1
            rw [Nat.add_mul]; omega
      have hq := key xs (j / C) _ (j % C) hx hm
      rw [hjj, hj] at hq
      have := h (j / C) _ hx (j % C) u hq.symm
      rw [hjj] at this
      exact this

theorem open_bytes {t e : TypeId} {v : Value} {d : DataW H} {ps : List MemPlace} {r : Reach} {b0 : Nat} (ht : P.underlying t = some (.slice e)) (he : P.underlying e = some (.int .u8)) (hc : P.cellsOf e = 1) (hB : 1 ≤ P.bytesOf e)
    (hw : WB P t d) (hval : Value.okWide P w r b0 t v) (h : DataW.Trod enc P w base spare held t v d ps) :
    ∃ l : List Int, bySl w.heap.size w v l ∧ (∀ z ∈ l, 0 ≤ z ∧ z < 256) ∧ l.length ≤ reachBytes := by
  obtain ⟨fuel, hf⟩ := h
  obtain ⟨a, c, xs, h1, h2, h3, h4, h5, h6⟩ := open_slice_gen (R := fun vs (z : Int) => vs = [.int .u8 z] ∧ (Lit.int .u8 z).wf = true) ht hc (by decide) hB hw hf fun n vs y _ hl hy => by
    obtain ⟨z, hz, _, hwz⟩ := DataW.trod_int he hy
    exact ⟨z, hz, hwz⟩
  have hv : v = .slice a xs.length c := by
    cases v with
    | agg cs =>
      exfalso
      unfold Value.okWide at hval
      rw [ht] at hval
      simp only [Value.cells] at h1
      obtain ⟨cs⟩ := cs
      simp only at h1
      subst h1
      simp [Cell.okWide, ht, Cell.ok] at hval
    | _ => exact (List.cons.inj h1).1
  subst hv
  refine ⟨xs, ⟨a, c, rfl, h2, h3, ?_⟩, fun z hz => ?_, h4⟩
  · rcases h6 with h6 | ⟨b, o, rfl, h6⟩
    · exact .inl h6
    · by_cases h0 : xs.length = 0
      · exact .inl h0
      · have cell : ∀ j z, xs[j]? = some z → w.cell? ⟨b, o + j, none⟩ = some (.int .u8 z) := fun j z hj => by
          obtain ⟨vs, _, ⟨e, _⟩, hcell⟩ := h6 j z hj
          have := hcell 0 _ (by rw [e]; rfl)
          rwa [Nat.mul_one, Nat.add_zero] at this
        have hlt := World.block_lt_of_cell? w _ (cell 0 _ (List.getElem?_eq_getElem (by omega : 0 < xs.length)))
        exact .inr ⟨b, o, rfl, hlt, hlt, cell⟩
  · obtain ⟨vs, _, _, hwf⟩ := h5 z hz
    simp [Lit.wf, IntKind.min, IntKind.max, IntKind.signed, IntKind.bits] at hwf
    omega

/-- What a function, a form reads as. -/
def FnR (w : World) (vs : List Value) (f : PFn) : Prop := ∃ v, vs = [.int .i64 f.1, .int .i64 f.2.1, v] ∧ rdAt (fun _ => False) w v f.2.2.length (insL f.2.2) ∧ fnF f ∧ f.2.2.length ≤ reachBytes
def FmR (w : World) (vs : List Value) (m : PFm) : Prop := ∃ v, vs = [.int .i64 m.1, .int .i64 m.2.1, .int .i64 m.2.2.1, v] ∧ rdAt (fun _ => False) w v m.2.2.2.length (intL m.2.2.2) ∧ fmF m ∧ m.2.2.2.length ≤ reachBytes
end

section
variable {H : Type} {enc : TypeId × Value → H} {w : World} {base : Nat} {spare : Nat → Bool} {held : Bool}
theorem flat_int (l : List Int) : l.flatMap (fun z : Int => [Value.int .i64 z]) = intL l := by
  induction l with
  | nil => rfl
  | cons z l ih => rw [List.flatMap_cons, ih]; rfl
theorem flat_str (l : List ByteArray) : l.flatMap (fun s : ByteArray => [Value.string s]) = strL l := by
  induction l with
  | nil => rfl
  | cons z l ih => rw [List.flatMap_cons, ih]; rfl
theorem reach_max : reachBytes ≤ maxLen := by decide

theorem fields_ins : ∃ f0 f1 f2 : Field, Tryz.prog.underlying 85 = some (.struct #[f0, f1, f2]) ∧ f0.offset = 0 ∧ f1.offset = 1 ∧ f2.offset = 2 ∧ f0.type = 3 ∧ f1.type = 3 ∧ f2.type = 3 := ⟨_, _, _, Tryz.underlying85, rfl, rfl, rfl, rfl, rfl, rfl⟩
theorem fields_fn : ∃ f0 f1 f2 : Field, Tryz.prog.underlying 82 = some (.struct #[f0, f1, f2]) ∧ f0.offset = 0 ∧ f1.offset = 1 ∧ f2.offset = 2 ∧ f0.type = 3 ∧ f1.type = 3 ∧ f2.type = 80 := ⟨_, _, _, Tryz.underlying82, rfl, rfl, rfl, rfl, rfl, rfl⟩
theorem fields_fm : ∃ f0 f1 f2 f3 : Field, Tryz.prog.underlying 30 = some (.struct #[f0, f1, f2, f3]) ∧ f0.offset = 0 ∧ f1.offset = 1 ∧ f2.offset = 2 ∧ f3.offset = 3 ∧ f0.type = 3 ∧ f1.type = 3 ∧ f2.type = 3 ∧ f3.type = 28 := ⟨_, _, _, _, Tryz.underlying30, rfl, rfl, rfl, rfl, rfl, rfl, rfl, rfl⟩
theorem int_i64 : Tryz.prog.underlying 3 = some (.int .i64) := by kernel_rfl
theorem cells_int : Tryz.prog.cellsOf 3 = 1 := by kernel_rfl

theorem el_ins {fuel : Nat} {vs : List Value} {y : DataW H × List MemPlace} (hl : vs.length = 3) (h : DataW.trod enc Tryz.prog w base spare held fuel 85 vs = some y) : ∃ p : PIns, vs = insC p ∧ insF p := by
  obtain ⟨f0, f1, f2, hu, o0, o1, o2, t0, t1, t2⟩ := fields_ins
  obtain ⟨xs, n, _, hy, _, hxl, hg⟩ := DataW.trod_struct hu h
  match vs, hl, hg with
  | [a, b, c], _, hg =>
    have hx3 : xs.length = 3 := hxl
    have q0 := hg 0 f0 rfl
    have q1 := hg 1 f1 rfl
    have q2 := hg 2 f2 rfl
    simp only [o0, o1, o2, t0, t1, t2, cells_int, List.drop_succ_cons, List.drop_zero, List.take_succ_cons, List.take_zero] at q0 q1 q2
    rw [List.getElem?_eq_getElem (by omega)] at q0 q1 q2
    obtain ⟨z0, e0, _, w0⟩ := DataW.trod_int int_i64 q0
    obtain ⟨z1, e1, _, w1⟩ := DataW.trod_int int_i64 q1
    obtain ⟨z2, e2, _, w2⟩ := DataW.trod_int int_i64 q2
    cases e0; cases e1; cases e2
    exact ⟨(z0, z1, z2), rfl, w0, w1, w2⟩

theorem el_fn {fuel : Nat} {vs : List Value} {y : DataW H × List MemPlace} (hw : WB Tryz.prog 82 y.1) (hl : vs.length = 3) (h : DataW.trod enc Tryz.prog w base spare held fuel 82 vs = some y) : ∃ f : PFn, FnR w vs f := by
  obtain ⟨f0, f1, f2, hu, o0, o1, o2, t0, t1, t2⟩ := fields_fn
  obtain ⟨xs, n, _, hy, _, hxl, hg⟩ := DataW.trod_struct hu h
  have hx3 : xs.length = 3 := hxl
  have c43 : Tryz.prog.cellsOf 80 = 1 := by kernel_rfl
  match vs, hl, hg with
  | [a, b, c], _, hg =>
    have q0 := hg 0 f0 rfl
    have q1 := hg 1 f1 rfl
    have q2 := hg 2 f2 rfl
    simp only [o0, o1, o2, t0, t1, t2, cells_int, c43, List.drop_succ_cons, List.drop_zero, List.take_succ_cons, List.take_zero] at q0 q1 q2
    rw [List.getElem?_eq_getElem (by omega)] at q0 q1 q2
    obtain ⟨z0, e0, _, w0⟩ := DataW.trod_int int_i64 q0
    obtain ⟨z1, e1, _, w1⟩ := DataW.trod_int int_i64 q1
    have hw2 : WB Tryz.prog 80 xs[2].1 := by
      have := wb_part hu (j := 2) (f := f2) (d := xs[2].1) (by rw [hy] at hw; exact hw) rfl (by rw [List.getElem?_map, List.getElem?_eq_getElem (by omega)]; rfl)
      rwa [t2] at this
    obtain ⟨sa, sc, l, h1, h2, h3, h4, h5, h6⟩ := open_slice_gen (α := PIns) (R := fun vs p => vs = insC p ∧ insF p) under_inss (by kernel_rfl) (by decide) (by decide +kernel) hw2 q2 fun n vs y _ hl hy => el_ins hl hy
    cases e0; cases e1; cases h1
    refine ⟨(z0, z1, l), .slice sa l.length sc, rfl, ?_, ⟨w0, w1, fun p hp => ?_, Nat.le_trans h4 reach_max⟩, h4⟩
    · exact gen_rd (C := 3) (f := insC) (fun _ => rfl) (by decide) (h6.imp_right fun ⟨b, o, e, hc⟩ => ⟨b, o, e, fun i x hx => by obtain ⟨vs, _, ⟨e, _⟩, hcell⟩ := hc i x hx; rw [← e]; exact hcell⟩)
    · obtain ⟨vs, _, _, hF⟩ := h5 p hp
      exact hF

theorem el_fm {fuel : Nat} {vs : List Value} {y : DataW H × List MemPlace} (hw : WB Tryz.prog 30 y.1) (hl : vs.length = 4) (h : DataW.trod enc Tryz.prog w base spare held fuel 30 vs = some y) : ∃ m : PFm, FmR w vs m := by
  obtain ⟨f0, f1, f2, f3, hu, o0, o1, o2, o3, t0, t1, t2, t3⟩ := fields_fm
  obtain ⟨xs, n, _, hy, _, hxl, hg⟩ := DataW.trod_struct hu h
  have hx3 : xs.length = 4 := hxl
  have c43 : Tryz.prog.cellsOf 28 = 1 := by kernel_rfl
  match vs, hl, hg with
  | [a, b, c, d], _, hg =>
    have q0 := hg 0 f0 rfl
    have q1 := hg 1 f1 rfl
    have q2 := hg 2 f2 rfl
    have q3 := hg 3 f3 rfl
    simp only [o0, o1, o2, o3, t0, t1, t2, t3, cells_int, c43, List.drop_succ_cons, List.drop_zero, List.take_succ_cons, List.take_zero] at q0 q1 q2 q3
    rw [List.getElem?_eq_getElem (by omega)] at q0 q1 q2 q3
    obtain ⟨z0, e0, _, w0⟩ := DataW.trod_int int_i64 q0
    obtain ⟨z1, e1, _, w1⟩ := DataW.trod_int int_i64 q1
    obtain ⟨z2, e2, _, w2⟩ := DataW.trod_int int_i64 q2
    have hw2 : WB Tryz.prog 28 xs[3].1 := by
      have := wb_part hu (j := 3) (f := f3) (d := xs[3].1) (by rw [hy] at hw; exact hw) rfl (by rw [List.getElem?_map, List.getElem?_eq_getElem (by omega)]; rfl)
      rwa [t3] at this
    obtain ⟨sa, sc, l, h1, h2, h3, h4, h5, h6⟩ := open_slice_gen (α := Int) (R := fun vs z => vs = [.int .i64 z] ∧ (Lit.int .i64 z).wf = true) under_i64s cells_int (by decide) (by decide +kernel) hw2 q3 fun n vs y _ hl hy => by
      obtain ⟨z, hz, _, hwz⟩ := DataW.trod_int int_i64 hy
      exact ⟨z, hz, hwz⟩
    cases e0; cases e1; cases e2; cases h1
    refine ⟨(z0, z1, z2, l), .slice sa l.length sc, rfl, ?_, ⟨w0, w1, w2, fun p hp => ?_, Nat.le_trans h4 reach_max⟩, h4⟩
    · have := gen_rd (C := 1) (f := fun z : Int => [Value.int .i64 z]) (fun _ => rfl) (by decide) (c := sc) (h6.imp_right fun ⟨b, o, e, hc⟩ => ⟨b, o, e, fun i x hx => by obtain ⟨vs, _, ⟨e, _⟩, hcell⟩ := hc i x hx; rw [← e]; exact hcell⟩)
      rwa [flat_int] at this
    · obtain ⟨vs, _, _, hF⟩ := h5 p hp
      exact hF

theorem many_gen {α : Type} {E : (Nat → Prop) → World → Nat → Nat → α → Prop} {C : Nat} {R : List Value → α → Prop} (hC : 0 < C) {a : Option Addr} {c : Nat} {xs : List α}
    (h : xs.length = 0 ∨ ∃ b o, a = some ⟨b, o, none⟩ ∧ ∀ i x, xs[i]? = some x → ∃ vs, vs.length = C ∧ R vs x ∧ ∀ j u, vs[j]? = some u → w.cell? ⟨b, o + (i * C + j), none⟩ = some u)
    (hE : ∀ vs x b o, R vs x → (∀ j u, vs[j]? = some u → w.cell? ⟨b, o + j, none⟩ = some u) → E (fun _ => False) w b o x) : manyAt E C (fun _ => False) w (.slice a xs.length c) xs := by
  refine ⟨a, c, rfl, ?_⟩
  rcases h with h | ⟨b, o, rfl, h⟩
  · exact .inl h
  · by_cases h0 : xs.length = 0
    · exact .inl h0
    · obtain ⟨vs, hl, hR, hc⟩ := h 0 _ (List.getElem?_eq_getElem (by omega : 0 < xs.length))
      have hlt := World.block_lt_of_cell? w _ (hc 0 _ (List.getElem?_eq_getElem (by omega : 0 < vs.length)))
      refine .inr ⟨b, o, rfl, fun t => t, hlt, fun i x hx => ?_⟩
      obtain ⟨vs, hl, hR, hc⟩ := h i x hx
      exact hE vs x b (o + i * C) hR fun j u hj => by rw [Nat.add_assoc]; exact hc j u hj

/-- A program as an argument. -/
theorem open_prog {v : Value} {d : DataW H} {ps : List MemPlace} {r : Reach} {b0 : Nat} (hw : WB Tryz.prog 37 d) (hval : Value.okWide Tryz.prog w r b0 37 v) (h : DataW.Trod enc Tryz.prog w base spare held 37 v d ps) :
    ∃ (v1 v2 v3 : Value) (P : PPr), v = .agg #[v1, v2, v3] ∧ prAt (fun _ => False) w v1 v2 v3 P ∧ prF P ∧ P.1.length ≤ reachBytes ∧ P.2.1.length ≤ reachBytes ∧ P.2.2.length ≤ reachBytes ∧ (∀ f ∈ P.1, f.2.2.length ≤ reachBytes) ∧ ∀ m ∈ P.2.2, m.2.2.2.length ≤ reachBytes := by
  have hp : ∃ f0 f1 f2 : Field, Tryz.prog.underlying 37 = some (.struct #[f0, f1, f2]) ∧ oneCellFields Tryz.prog #[f0, f1, f2] = true ∧ Tryz.prog.cellsOf 37 = 3 ∧ f0.type = 34 ∧ f1.type = 35 ∧ f2.type = 22 :=
    ⟨_, _, _, Tryz.underlying37, by kernel_rfl, by kernel_rfl, rfl, rfl, rfl⟩
  obtain ⟨f0, f1, f2, hs, ho, hc, t0, t1, t2⟩ := hp
  obtain ⟨v0, v1, v2, y0, y1, y2, n, rfl, rfl, _, h0, h1, h2⟩ := Joins.open_agg3 hs ho hc hval h
  have w0 := wb_part hs hw (j := 0) (f := f0) (d := y0.1) rfl rfl
  have w1 := wb_part hs hw (j := 1) (f := f1) (d := y1.1) rfl rfl
  have w2 := wb_part hs hw (j := 2) (f := f2) (d := y2.1) rfl rfl
  rw [t0] at w0 h0
  rw [t1] at w1 h1
  rw [t2] at w2 h2
  obtain ⟨a0, c0, F, e0, _, _, l0, r0, m0⟩ := open_slice_gen (C := 3) (R := FnR w) under_fns (by kernel_rfl) (by decide) (by decide +kernel) w0 h0 fun n vs y hw hl hy => el_fn hw hl hy
  obtain ⟨a1, c1, Q, e1, _, _, l1, r1, m1⟩ := open_slice_gen (C := 1) (R := fun vs (s : ByteArray) => vs = [.string s] ∧ s.size ≤ maxLen) under_strs (by kernel_rfl) (by decide) (by decide +kernel) w1 h1 fun n vs y _ hl hy => by
    obtain ⟨s, hz, _, hwz⟩ := DataW.trod_string under_str hy
    exact ⟨s, hz, hwz⟩
  obtain ⟨a2, c2, M, e2, _, _, l2, r2, m2⟩ := open_slice_gen (C := 4) (R := FmR w) under_fms (by kernel_rfl) (by decide) (by decide +kernel) w2 h2 fun n vs y hw hl hy => el_fm hw hl hy
  cases e0; cases e1; cases e2
  refine ⟨_, _, _, (F, Q, M), rfl, ⟨?_, ?_, ?_⟩, ⟨fun f hf => ?_, fun m hm => ?_, fun s hs => ?_, Nat.le_trans l0 reach_max, Nat.le_trans l1 reach_max, Nat.le_trans l2 reach_max⟩, l0, l1, l2, fun f hf => ?_, fun m hm => ?_⟩
  · exact many_gen (C := 3) (by decide) m0 fun vs x b o ⟨v, e, hr, _⟩ hcl => by subst e; exact ⟨hcl 0 _ rfl, hcl 1 _ rfl, v, hcl 2 _ rfl, hr⟩
  · have := gen_rd (C := 1) (f := fun s : ByteArray => [Value.string s]) (fun _ => rfl) (by decide) (c := c1) (m1.imp_right fun ⟨b, o, e, hc⟩ => ⟨b, o, e, fun i x hx => by obtain ⟨vs, _, ⟨e, _⟩, hcell⟩ := hc i x hx; rw [← e]; exact hcell⟩)
    rwa [flat_str] at this
  · exact many_gen (C := 4) (by decide) m2 fun vs x b o ⟨v, e, hr, _⟩ hcl => by subst e; exact ⟨hcl 0 _ rfl, hcl 1 _ rfl, hcl 2 _ rfl, v, hcl 3 _ rfl, hr⟩
  · obtain ⟨vs, _, v, _, _, hF, _⟩ := r0 f hf; exact hF
  · obtain ⟨vs, _, v, _, _, hF, _⟩ := r2 m hm; exact hF
  · obtain ⟨vs, _, _, hF⟩ := r1 s hs; exact hF
  · obtain ⟨vs, _, v, _, _, _, hF⟩ := r0 f hf; exact hF
  · obtain ⟨vs, _, v, _, _, _, hF⟩ := r2 m hm; exact hF
end
end Go.Proofs.YtajkkinolpkfmaaGreatDoor

/-
  The contracts of the statements' own helpers over programs: LargeProgram.
  Conditions: as each states.
-/
namespace Go.Proofs.YtajkkinolpkfmaaGreatDoor
set_option linter.unusedVariables false
set_option linter.unusedSimpArgs false
open Go.ChangeShapes Go.WideShapes Go.ChangeAt Go.RowKit
set_option maxRecDepth 100000

structure PSm (P : PPr) : Prop where
  n1 : P.1.length ≤ 3000
  n2 : P.2.1.length ≤ 3000
  n3 : P.2.2.length ≤ 3000
  fn : ∀ f ∈ P.1, f.2.2.length ≤ 3000
  st : ∀ s ∈ P.2.1, s.size ≤ 3000
  fm : ∀ m ∈ P.2.2, m.2.2.2.length ≤ 3000
structure PRe (P : PPr) : Prop where
  n1 : P.1.length ≤ reachBytes
  n2 : P.2.1.length ≤ reachBytes
  n3 : P.2.2.length ≤ reachBytes
  fn : ∀ f ∈ P.1, f.2.2.length ≤ reachBytes
  fm : ∀ m ∈ P.2.2, m.2.2.2.length ≤ reachBytes
def LgPost (P : PPr) (w : World) (e : Ending) (w' : World) : Prop := ∃ b : Bool, e = .returned (.bool b) ∧ (b = false → PSm P) ∧ Below w.heap.size w w'
theorem reach_eq : reachBytes = 140737488351232 := rfl

set_option maxHeartbeats 16000000 in
theorem large_any {S : Nat → Prop} {w : World} {v1 v2 v3 : Value} {P : PPr} (h : prAt S w v1 v2 v3 P) (hR : PRe P) (hst : ∀ s ∈ P.2.1, s.size ≤ maxLen) :
    Calls Tryz.prog 10 #[.agg #[v1, v2, v3]] w (LgPost P w) := by
  obtain ⟨F, Q, M⟩ := P
  obtain ⟨h1, h2, h3⟩ := h
  simp only at h1 h2 h3 hst
  obtain ⟨a1, c1, rfl, hF⟩ := h1
  obtain ⟨a2, c2, rfl, hQ⟩ := h2
  obtain ⟨a3, c3, rfl, hM⟩ := h3
  have PF := Lib.hid hF; have PQ := Lib.hid hQ; have PM := Lib.hid hM
  have n1 := hR.n1; have n2 := hR.n2; have n3 := hR.n3
  rw [reach_eq] at n1 n2 n3
  simp only at n1 n2 n3
  have RF := Lib.hid (show ∀ f ∈ F, f.2.2.length ≤ 140737488351232 from hR.fn)
  have RM := Lib.hid (show ∀ m ∈ M, m.2.2.2.length ≤ 140737488351232 from hR.fm)
  have RQ := Lib.hid (show ∀ s ∈ Q, s.size ≤ 9223372036854775807 from hst)
  clear hF hQ hM hR hst
  obtain ⟨W, hW⟩ : ∃ W, w.alloc (.cells #[.slice a1 F.length c1, .slice a2 Q.length c2, .slice a3 M.length c3] 37) = W := ⟨_, rfl⟩
  have BW := Lib.hid (show Below w.heap.size w W by rw [← hW]; exact down_alloc (Below.refl _ _) _)
  have ra : rowAt W w.heap.size 37 [.slice a1 F.length c1, .slice a2 Q.length c2, .slice a3 M.length c3] := by rw [← hW]; exact rowAt.made _ _ _
  have x0 : W.cell? ⟨w.heap.size, 0, none⟩ = some (.slice a1 F.length c1) := (ra.cell 0).trans rfl
  have x1 : W.cell? ⟨w.heap.size, 1, none⟩ = some (.slice a2 Q.length c2) := (ra.cell 1).trans rfl
  have x2 : W.cell? ⟨w.heap.size, 2, none⟩ = some (.slice a3 M.length c3) := (ra.cell 2).trans rfl
  go_enter Tryz.func10, Tryz.ntmps10
  go_wp2_with fail
  clear hW
  go_loop [3, 4] (fun n i => ∃ k m : Nat, i = .int .i64 k ∧ n = .int .i64 m ∧ k ≤ F.length ∧ m ≤ 1000000000000000 ∧ Hid (F.length + Q.length + M.length ≤ m) ∧ Hid (∀ j f, j < k → F[j]? = some f → f.2.2.length ≤ m)) (fun _ i => F.length - (intOf i).toNat)
  case atStart => exact ⟨0, F.length + Q.length + M.length, rfl, by go_num, Nat.zero_le _, by omega, Lib.hid (Nat.le_refl _), Lib.hid fun j f hj => absurd hj (by omega)⟩
  case round =>
    obtain ⟨k, m, rfl, rfl, hk, hm, HA, HE⟩ := hrel
    by_cases hlt : k < F.length ∧ m ≤ 3000
    · obtain ⟨hlt, hmm⟩ := hlt
      have hx := Lib.hid (List.getElem?_eq_getElem hlt)
      have hcl := RF.out F[k] (List.getElem_mem hlt)
      generalize F[k] = f at *
      rcases PF.out with hz | ⟨rb, ro, rfl, hSb, hrb, hc⟩
      · omega
      · obtain ⟨e0, e1, sv, e2, hsv⟩ := (hc k f hx.out).upon (upon_of_below BW.out) (fun _ _ t => t.elim) hrb (fun t => t)
        obtain ⟨sa, sc, rfl⟩ := hsv.slice
        clear hc hSb hsv
        have hkI : (k : Int) < F.length := by omega
        have hmI : (m : Int) ≤ 3000 := by omega
        go_wp2_with fail
        go_round
        case rel =>
          refine ⟨k + 1, m + f.2.2.length, by go_num, by go_num, by omega, by omega, Lib.hid (by have := HA.out; omega), Lib.hid fun j g hj hg => ?_⟩
          rcases Nat.lt_or_ge j k with h | h
          · have := HE.out j g h hg; omega
          · obtain rfl : j = k := by omega
            rw [hx.out] at hg; cases hg; omega
        case measure => simp [intOf]; omega
    · have X1 := Lib.hid (show k = F.length ∨ 3000 < m by omega)
      have HE1 := HE
      have HA1 := HA
      clear HE HA
      by_cases hkf : k < F.length
      all_goals
        have hmI : k < F.length → ¬ ((m : Int) ≤ 3000) := by omega
        first | (have hmI2 := hmI hkf; clear hmI) | clear hmI
        clear hlt
        go_wp2_with fail
        go_loop [3, 5] (fun n i => ∃ k2 m2 : Nat, i = .int .i64 k2 ∧ n = .int .i64 m2 ∧ k2 ≤ Q.length ∧ m2 ≤ 2000000000000000 ∧ Hid (m ≤ m2) ∧ Hid (∀ j s, j < k2 → Q[j]? = some s → s.size ≤ m2 ∨ 3000 < m2)) (fun _ i => Q.length - (intOf i).toNat)
        case atStart => exact ⟨0, m, rfl, rfl, Nat.zero_le _, by omega, Lib.hid (Nat.le_refl _), Lib.hid fun j s hj => absurd hj (by omega)⟩
        case round =>
          obtain ⟨k2, m2, rfl, rfl, hk2, hm2, HA2, HE2⟩ := hrel
          by_cases hlt2 : k2 < Q.length ∧ m2 ≤ 3000
          · obtain ⟨hlt2, hmm2⟩ := hlt2
            have hx := Lib.hid (List.getElem?_eq_getElem hlt2)
            have hql := RQ.out Q[k2] (List.getElem_mem hlt2)
            generalize Q[k2] = q at *
            rcases PQ.out with hz | ⟨rb, ro, rfl, hSb, hrb, hc⟩
            · omega
            · have e0 : W.cell? ⟨rb, ro + k2, none⟩ = some (.string q) := by rw [cell_upon (upon_of_below BW.out) hrb (fun t => t)]; exact hc _ _ (by rw [List.getElem?_map, hx.out]; rfl)
              clear hc hSb
              have hkI2 : (k2 : Int) < Q.length := by omega
              have hmI3 : (m2 : Int) ≤ 3000 := by omega
              have hQ1 : Q.length ≤ m2 := by have := HA1.out; have := HA2.out; omega
              have GO := Lib.hid (show ∀ m3 : Nat, m2 ≤ m3 → (q.size ≤ m3 ∨ 3000 < m3) → ∀ j s, j < k2 + 1 → Q[j]? = some s → s.size ≤ m3 ∨ 3000 < m3 from fun m3 h3 hq j s hj hs => by
                rcases Nat.lt_or_ge j k2 with h | h
                · have := HE2.out j s h hs; omega
                · obtain rfl : j = k2 := by omega
                  rw [hx.out] at hs; cases hs; exact hq)
              by_cases hq : q.size ≤ 3000
              · have hqI : (q.size : Int) ≤ 3000 := by omega
                go_wp2_with fail
                go_round
                case rel => exact ⟨k2 + 1, m2 + q.size, by go_num, by go_num, by omega, by omega, Lib.hid (by have := HA2.out; omega), Lib.hid (GO.out _ (by omega) (.inl (by omega)))⟩
                case measure => simp [intOf]; omega
              · have hqI : ¬ (q.size : Int) ≤ 3000 := by omega
                have hqI2 : (3000 : Int) < q.size := by omega
                go_wp2_with fail
                go_round
                case rel => exact ⟨k2 + 1, m2 + 3000, by go_num, by go_num, by omega, by omega, Lib.hid (by have := HA2.out; omega), Lib.hid (GO.out _ (by omega) (.inr (by omega)))⟩
                case measure => simp [intOf]; omega
          · have X2 := Lib.hid (show k2 = Q.length ∨ 3000 < m2 by omega)
            by_cases hkf2 : k2 < Q.length
            all_goals
              have hmI5 : k2 < Q.length → ¬ ((m2 : Int) ≤ 3000) := by omega
              first | (have hmI6 := hmI5 hkf2; clear hmI5) | clear hmI5
              clear hlt2
              go_wp2_with fail
              go_loop [3, 6] (fun n i => ∃ k3 m3 : Nat, i = .int .i64 k3 ∧ n = .int .i64 m3 ∧ k3 ≤ M.length ∧ m3 ≤ 3000000000000000 ∧ Hid (m2 ≤ m3) ∧ Hid (∀ j f, j < k3 → M[j]? = some f → f.2.2.2.length ≤ m3)) (fun _ i => M.length - (intOf i).toNat)
              case atStart => exact ⟨0, m2, rfl, rfl, Nat.zero_le _, by omega, Lib.hid (Nat.le_refl _), Lib.hid fun j s hj => absurd hj (by omega)⟩
              case round =>
                obtain ⟨k3, m3, rfl, rfl, hk3, hm3, HA3, HE3⟩ := hrel
                by_cases hlt3 : k3 < M.length ∧ m3 ≤ 3000
                · obtain ⟨hlt3, hmm3⟩ := hlt3
                  have hx := Lib.hid (List.getElem?_eq_getElem hlt3)
                  have hcl := RM.out M[k3] (List.getElem_mem hlt3)
                  generalize M[k3] = f at *
                  rcases PM.out with hz | ⟨rb, ro, rfl, hSb, hrb, hc⟩
                  · omega
                  · obtain ⟨e0, e1, e1', sv, e2, hsv⟩ := (hc k3 f hx.out).upon (upon_of_below BW.out) (fun _ _ t => t.elim) hrb (fun t => t)
                    obtain ⟨sa, sc, rfl⟩ := hsv.slice
                    clear hc hSb hsv
                    have hkI3 : (k3 : Int) < M.length := by omega
                    have hmI7 : (m3 : Int) ≤ 3000 := by omega
                    go_wp2_with fail
                    go_round
                    case rel =>
                      refine ⟨k3 + 1, m3 + f.2.2.2.length, by go_num, by go_num, by omega, by omega, Lib.hid (by have := HA3.out; omega), Lib.hid fun j g hj hg => ?_⟩
                      rcases Nat.lt_or_ge j k3 with h | h
                      · have := HE3.out j g h hg; omega
                      · obtain rfl : j = k3 := by omega
                        rw [hx.out] at hg; cases hg; omega
                    case measure => simp [intOf]; omega
                · have X3 := Lib.hid (show k3 = M.length ∨ 3000 < m3 by omega)
                  have PO := Lib.hid (show ∀ b : Bool, b = decide ((3000 : Int) < m3) → LgPost (F, Q, M) w (.returned (.bool b)) W from fun b hbe => by
                    refine ⟨_, rfl, fun hb => ?_, BW.out⟩
                    have hb3 : ¬ (3000 : Int) < m3 := of_decide_eq_false (hbe.symm.trans hb)
                    have a1 := HA1.out; have a2 := HA2.out; have a3 := HA3.out
                    have y1 := X1.out; have y2 := X2.out; have y3 := X3.out
                    refine ⟨by show F.length ≤ _; omega, by show Q.length ≤ _; omega, by show M.length ≤ _; omega, fun f hf => ?_, fun s hs => ?_, fun f hf => ?_⟩
                    · obtain ⟨j, hj, e⟩ := List.getElem_of_mem hf
                      have := HE1.out j f (by show j < k; have : j < F.length := hj; omega) (by rw [List.getElem?_eq_getElem hj, e])
                      omega
                    · obtain ⟨j, hj, e⟩ := List.getElem_of_mem hs
                      have := HE2.out j s (by show j < k2; have : j < Q.length := hj; omega) (by rw [List.getElem?_eq_getElem hj, e])
                      omega
                    · obtain ⟨j, hj, e⟩ := List.getElem_of_mem hf
                      have := HE3.out j f (by show j < k3; have : j < M.length := hj; omega) (by rw [List.getElem?_eq_getElem hj, e])
                      omega)
                  by_cases hkf3 : k3 < M.length
                  all_goals
                    have hmI8 : k3 < M.length → ¬ ((m3 : Int) ≤ 3000) := by omega
                    first | (have hmI9 := hmI8 hkf3; clear hmI8) | clear hmI8
                    clear hlt3
                    go_wp2_with fail
                    go_ret
                    exact PO.out _ (by first | rfl | exact (decide_eq_true (by omega)).symm | exact (decide_eq_false (by omega)).symm)
end Go.Proofs.YtajkkinolpkfmaaGreatDoor

/-
  A law's argument that is a machine: as plain data, in memory.
  Conditions: as each states.
-/
namespace Go.Proofs.YtajkkinolpkfmaaGreatDoor
set_option linter.unusedVariables false
set_option linter.unusedSimpArgs false
open Go.ChangeShapes Go.WideShapes Go.ChangeAt Go.RowKit Go.Deep
set_option maxRecDepth 100000

/-- A slice no longer than its capacity. -/
def capV (v : Value) : Prop := ∃ a n c, v = .slice a n c ∧ n ≤ c
section
variable {H : Type} {enc : TypeId × Value → H} {w : World} {base : Nat} {spare : Nat → Bool} {held : Bool}

theorem fields_ma : ∃ f0 f1 f2 f3 f4 f5 f6 : Field, Tryz.prog.underlying 45 = some (.struct #[f0, f1, f2, f3, f4, f5, f6]) ∧ (f0.offset = 0 ∧ f1.offset = 4 ∧ f2.offset = 5 ∧ f3.offset = 6 ∧ f4.offset = 7 ∧ f5.offset = 8 ∧ f6.offset = 9) ∧
    (f0.type = 39 ∧ f1.type = 40 ∧ f2.type = 41 ∧ f3.type = 42 ∧ f4.type = 3 ∧ f5.type = 43 ∧ f6.type = 2) := ⟨_, _, _, _, _, _, _, Tryz.underlying45, ⟨rfl, rfl, rfl, rfl, rfl, rfl, rfl⟩, rfl, rfl, rfl, rfl, rfl, rfl, rfl⟩
theorem fields_he : ∃ f0 f1 f2 f3 : Field, Tryz.prog.underlying 39 = some (.struct #[f0, f1, f2, f3]) ∧ (f0.offset = 0 ∧ f1.offset = 1 ∧ f2.offset = 2 ∧ f3.offset = 3) ∧ (f0.type = 3 ∧ f1.type = 3 ∧ f2.type = 3 ∧ f3.type = 3) := ⟨_, _, _, _, Tryz.underlying39, ⟨rfl, rfl, rfl, rfl⟩, rfl, rfl, rfl, rfl⟩
theorem fields_fr : ∃ f0 f1 f2 f3 : Field, Tryz.prog.underlying 65 = some (.struct #[f0, f1, f2, f3]) ∧ (f0.offset = 0 ∧ f1.offset = 1 ∧ f2.offset = 2 ∧ f3.offset = 3) ∧ (f0.type = 3 ∧ f1.type = 3 ∧ f2.type = 3 ∧ f3.type = 43) := ⟨_, _, _, _, Tryz.underlying65, ⟨rfl, rfl, rfl, rfl⟩, rfl, rfl, rfl, rfl⟩
theorem fields_hd : ∃ f0 f1 f2 : Field, Tryz.prog.underlying 63 = some (.struct #[f0, f1, f2]) ∧ (f0.offset = 0 ∧ f1.offset = 1 ∧ f2.offset = 2) ∧ (f0.type = 3 ∧ f1.type = 3 ∧ f2.type = 3) := ⟨_, _, _, Tryz.underlying63, ⟨rfl, rfl, rfl⟩, rfl, rfl, rfl⟩
theorem u64_u64 : Tryz.prog.underlying 43 = some (.int .u64) := by kernel_rfl
theorem i64_i64 : Tryz.prog.underlying 2 = some (.int .i64) := by kernel_rfl
theorem cells_u64 : Tryz.prog.cellsOf 43 = 1 := by kernel_rfl
theorem cells_i64 : Tryz.prog.cellsOf 2 = 1 := by kernel_rfl

theorem el_he {fuel : Nat} {vs : List Value} {y : DataW H × List MemPlace} (hl : vs.length = 4) (h : DataW.trod enc Tryz.prog w base spare held fuel 39 vs = some y) : ∃ a b c d : Int, vs = [.int .i64 a, .int .i64 b, .int .i64 c, .int .i64 d] := by
  obtain ⟨f0, f1, f2, f3, hu, ⟨o0, o1, o2, o3⟩, t0, t1, t2, t3⟩ := fields_he
  obtain ⟨xs, n, _, hy, _, hxl, hg⟩ := DataW.trod_struct hu h
  match vs, hl, hg with
  | [a, b, c, d], _, hg =>
    have hx3 : xs.length = 4 := hxl
    have q0 := hg 0 f0 rfl
    have q1 := hg 1 f1 rfl
    have q2 := hg 2 f2 rfl
    have q3 := hg 3 f3 rfl
    simp only [o0, o1, o2, o3, t0, t1, t2, t3, cells_int, List.drop_succ_cons, List.drop_zero, List.take_succ_cons, List.take_zero] at q0 q1 q2 q3
    rw [List.getElem?_eq_getElem (by omega)] at q0 q1 q2 q3
    obtain ⟨z0, e0, _, _⟩ := DataW.trod_int int_i64 q0
    obtain ⟨z1, e1, _, _⟩ := DataW.trod_int int_i64 q1
    obtain ⟨z2, e2, _, _⟩ := DataW.trod_int int_i64 q2
    obtain ⟨z3, e3, _, _⟩ := DataW.trod_int int_i64 q3
    cases e0; cases e1; cases e2; cases e3
    exact ⟨z0, z1, z2, z3, rfl⟩
theorem el_fr {fuel : Nat} {vs : List Value} {y : DataW H × List MemPlace} (hl : vs.length = 4) (h : DataW.trod enc Tryz.prog w base spare held fuel 65 vs = some y) : ∃ p : PFr, vs = frC p := by
  obtain ⟨f0, f1, f2, f3, hu, ⟨o0, o1, o2, o3⟩, t0, t1, t2, t3⟩ := fields_fr
  obtain ⟨xs, n, _, hy, _, hxl, hg⟩ := DataW.trod_struct hu h
  match vs, hl, hg with
  | [a, b, c, d], _, hg =>
    have hx3 : xs.length = 4 := hxl
    have q0 := hg 0 f0 rfl
    have q1 := hg 1 f1 rfl
    have q2 := hg 2 f2 rfl
    have q3 := hg 3 f3 rfl
    simp only [o0, o1, o2, o3, t0, t1, t2, t3, cells_int, cells_u64, List.drop_succ_cons, List.drop_zero, List.take_succ_cons, List.take_zero] at q0 q1 q2 q3
    rw [List.getElem?_eq_getElem (by omega)] at q0 q1 q2 q3
    obtain ⟨z0, e0, _, _⟩ := DataW.trod_int int_i64 q0
    obtain ⟨z1, e1, _, _⟩ := DataW.trod_int int_i64 q1
    obtain ⟨z2, e2, _, _⟩ := DataW.trod_int int_i64 q2
    obtain ⟨z3, e3, _, _⟩ := DataW.trod_int u64_u64 q3
    cases e0; cases e1; cases e2; cases e3
    exact ⟨(z0, z1, z2, z3), rfl⟩
theorem el_hd {fuel : Nat} {vs : List Value} {y : DataW H × List MemPlace} (hl : vs.length = 3) (h : DataW.trod enc Tryz.prog w base spare held fuel 63 vs = some y) : ∃ p : PHd, vs = hdC p := by
  obtain ⟨f0, f1, f2, hu, ⟨o0, o1, o2⟩, t0, t1, t2⟩ := fields_hd
  obtain ⟨xs, n, _, hy, _, hxl, hg⟩ := DataW.trod_struct hu h
  match vs, hl, hg with
  | [a, b, c], _, hg =>
    have hx3 : xs.length = 3 := hxl
    have q0 := hg 0 f0 rfl
    have q1 := hg 1 f1 rfl
    have q2 := hg 2 f2 rfl
    simp only [o0, o1, o2, t0, t1, t2, cells_int, List.drop_succ_cons, List.drop_zero, List.take_succ_cons, List.take_zero] at q0 q1 q2
    rw [List.getElem?_eq_getElem (by omega)] at q0 q1 q2
    obtain ⟨z0, e0, _, _⟩ := DataW.trod_int int_i64 q0
    obtain ⟨z1, e1, _, _⟩ := DataW.trod_int int_i64 q1
    obtain ⟨z2, e2, _, _⟩ := DataW.trod_int int_i64 q2
    cases e0; cases e1; cases e2
    exact ⟨(z0, z1, z2), rfl⟩

theorem flat_u64 (l : List Int) : l.flatMap (fun z : Int => [Value.int .u64 z]) = wdL l := by
  induction l with
  | nil => rfl
  | cons z l ih => rw [List.flatMap_cons, ih]; rfl
theorem open_ma {v : Value} {d : DataW H} {ps : List MemPlace} {r : Reach} {b0 : Nat} (hw : WB Tryz.prog 45 d) (hval : Value.okWide Tryz.prog w r b0 45 v) (h : DataW.Trod enc Tryz.prog w base spare held 45 v d ps) :
    ∃ (s f hh : Value) (M : PMa), v = maV M.z0 M.z1 M.z2 M.z3 s f hh M.state M.res M.code ∧ maAt (fun _ => False) w s f hh M ∧ capV s := by
  obtain ⟨f0, f1, f2, f3, f4, f5, f6, hs, ⟨o0, o1, o2, o3, o4, o5, o6⟩, t0, t1, t2, t3, t4, t5, t6⟩ := fields_ma
  obtain ⟨cs, rfl, hsz⟩ := okWide_struct hs hval
  obtain ⟨k0, k1, k2, k3, k4, k5, k6, k7, k8, k9, rfl⟩ : ∃ k0 k1 k2 k3 k4 k5 k6 k7 k8 k9, cs = #[k0, k1, k2, k3, k4, k5, k6, k7, k8, k9] := by
    have hc : Tryz.prog.cellsOf 45 = 10 := by kernel_rfl
    have := hsz.trans hc
    match cs, this with
    | ⟨[k0, k1, k2, k3, k4, k5, k6, k7, k8, k9]⟩, _ => exact ⟨_, _, _, _, _, _, _, _, _, _, rfl⟩
  obtain ⟨fuel, hf⟩ := h
  obtain ⟨xs, n, _, hy, _, hxl, hg⟩ := DataW.trod_struct hs hf
  have hx7 : xs.length = 7 := hxl
  have ch : Tryz.prog.cellsOf 39 = 4 := by kernel_rfl
  have cw : Tryz.prog.cellsOf 40 = 1 := by kernel_rfl
  have cf : Tryz.prog.cellsOf 41 = 1 := by kernel_rfl
  have cd : Tryz.prog.cellsOf 42 = 1 := by kernel_rfl
  have hwp : ∀ (j : Nat) (hj : j < xs.length) (f : Field), #[f0, f1, f2, f3, f4, f5, f6][j]? = some f → WB Tryz.prog f.type xs[j].1 := fun j hj f hfj =>
    wb_part hs (by have e : d = DataW.agg (xs.map (·.1)) := congrArg Prod.fst hy; rw [e] at hw; exact hw) hfj (by rw [List.getElem?_map, List.getElem?_eq_getElem hj]; rfl)
  have q0 := hg 0 f0 rfl
  have q1 := hg 1 f1 rfl
  have q2 := hg 2 f2 rfl
  have q3 := hg 3 f3 rfl
  have q4 := hg 4 f4 rfl
  have q5 := hg 5 f5 rfl
  have q6 := hg 6 f6 rfl
  have w1 := hwp 1 (by omega) f1 rfl
  have w2 := hwp 2 (by omega) f2 rfl
  have w3 := hwp 3 (by omega) f3 rfl
  rw [t1] at w1
  rw [t2] at w2
  rw [t3] at w3
  simp only [Value.cells, o0, o1, o2, o3, o4, o5, o6, t0, t1, t2, t3, t4, t5, t6, ch, cw, cf, cd, cells_int, cells_u64, cells_i64, List.drop_succ_cons, List.drop_zero, List.take_succ_cons, List.take_zero] at q0 q1 q2 q3 q4 q5 q6
  rw [List.getElem?_eq_getElem (by omega)] at q0 q1 q2 q3 q4 q5 q6
  obtain ⟨a, b, c, e, he⟩ := el_he rfl q0
  obtain ⟨z4, e4, _, _⟩ := DataW.trod_int int_i64 q4
  obtain ⟨z5, e5, _, _⟩ := DataW.trod_int u64_u64 q5
  obtain ⟨z6, e6, _, _⟩ := DataW.trod_int i64_i64 q6
  obtain ⟨a1, c1, st, e1, l1, _, _, _, m1⟩ := open_slice_gen (C := 1) (R := fun vs (z : Int) => vs = [.int .u64 z]) under_W cells_u64 (by decide) (by decide +kernel) w1 q1 fun n vs y _ hl hy => by
    obtain ⟨z, hz, _, _⟩ := DataW.trod_int u64_u64 hy
    exact ⟨z, hz⟩
  obtain ⟨a2, c2, fr, e2, _, _, _, _, m2⟩ := open_slice_gen (C := 4) (R := fun vs (p : PFr) => vs = frC p) under_F (by kernel_rfl) (by decide) (by decide +kernel) w2 q2 fun n vs y _ hl hy => el_fr hl hy
  obtain ⟨a3, c3, hd, e3, _, _, _, _, m3⟩ := open_slice_gen (C := 3) (R := fun vs (p : PHd) => vs = hdC p) under_H (by kernel_rfl) (by decide) (by decide +kernel) w3 q3 fun n vs y _ hl hy => el_hd hl hy
  cases he; cases e1; cases e2; cases e3; cases e4; cases e5; cases e6
  refine ⟨_, _, _, ⟨a, b, c, e, st, fr, hd, z4, z5, z6⟩, rfl, ⟨?_, ?_, ?_⟩, ⟨_, _, _, rfl, l1⟩⟩
  · have := gen_rd (C := 1) (f := fun z : Int => [Value.int .u64 z]) (fun _ => rfl) (by decide) (c := c1) (m1.imp_right fun ⟨b, o, e, hc⟩ => ⟨b, o, e, fun i x hx => by obtain ⟨vs, _, e, hcell⟩ := hc i x hx; rw [← e]; exact hcell⟩)
    rwa [flat_u64] at this
  · exact gen_rd (C := 4) (f := frC) (fun _ => rfl) (by decide) (m2.imp_right fun ⟨b, o, e, hc⟩ => ⟨b, o, e, fun i x hx => by obtain ⟨vs, _, e, hcell⟩ := hc i x hx; rw [← e]; exact hcell⟩)
  · exact gen_rd (C := 3) (f := hdC) (fun _ => rfl) (by decide) (m3.imp_right fun ⟨b, o, e, hc⟩ => ⟨b, o, e, fun i x hx => by obtain ⟨vs, _, e, hcell⟩ := hc i x hx; rw [← e]; exact hcell⟩)
end
end Go.Proofs.YtajkkinolpkfmaaGreatDoor

/-
  Package frame: Throw where a handler takes the code: the stack is no longer than its capacity.
  Conditions: as each states.
-/
namespace Go.Proofs.YtajkkinolpkfmaaGreatDoor
set_option linter.unusedVariables false
set_option linter.unusedSimpArgs false
open Go.ChangeShapes Go.WideShapes Go.ChangeAt Go.RowKit
set_option maxRecDepth 100000

def ThPostC (w : World) (M : PMa) (e : Ending) (w' : World) : Prop :=
  ∃ s f h, e = .returned (maV M.z0 M.z1 M.z2 M.z3 s f h M.state M.res M.code) ∧ maAt (fun k => k < w.heap.size) w' s f h M ∧ Below w.heap.size w w' ∧ capV s
theorem th_newC {w W' : World} {z0 z1 z2 z3 : Int} {st : List Int} {fr : List PFr} {hd : List PHd} {sta res cod : Int} {g2 g3 : Nat} {PC : Int} {n m kf : Nat} {c : Int} {a : Option Addr} {ca c2 c3 : Nat}
    (own : W'.ownsRow 0 43 1 (.slice a (m + 1) ca) (m + 1) (wdL (st.take m) ++ [.int .u64 (wInt c)])) (far : ∀ g, (Value.slice a (m + 1) ca).ownBlock = some g → w.heap.size + 1 < g ∧ g ≠ g2 ∧ g ≠ g3)
    (o2 : rowAt W' g2 65 ((frL fr).set (kf * 4 + 1) (.int .i64 PC))) (o3 : rowAt W' g3 63 (hdL hd)) (l2 : w.heap.size + 1 < g2) (l3 : w.heap.size + 1 < g3) (hn : hd.length = n + 1) (hk : kf < fr.length) (hm : m ≤ st.length) (hb : Below w.heap.size w W') :
    ThPostC w (thTo ⟨z0, z1, z2, z3, st, fr, hd, sta, res, cod⟩ ((kf : Int) + 1, (m : Int), PC) c) (.returned (maV z0 z1 z2 z3 (.slice a (m + 1) ca) (.slice (some ⟨g2, 0, none⟩) (kf + 1) c2) (.slice (some ⟨g3, 0, none⟩) n c3) sta res cod)) W' := by
  obtain ⟨s, f, h, e, kk, b⟩ := th_new (PC := PC) (n := n) (m := m) (kf := kf) (z0 := z0) (z1 := z1) (z2 := z2) (z3 := z3) (sta := sta) (res := res) (cod := cod) (c2 := c2) (c3 := c3) own far o2 o3 l2 l3 hn hk hm hb
  refine ⟨s, f, h, e, kk, b, ?_⟩
  have e' := congrArg (fun x => match x with | Ending.returned (Value.agg cs) => cs[4]? | _ => none) e
  simp at e'
  rw [← e']
  refine ⟨_, _, _, rfl, ?_⟩
  rcases owns_parts own with ⟨_, h1, _⟩ | ⟨g, cap, rest, e, _, _, _, _, h3, _⟩
  · omega
  · cases e; exact h3
set_option maxHeartbeats 4000000 in
theorem throw_goodC {S : Nat → Prop} {w : World} {s f h : Value} {z0 z1 z2 z3 : Int} {st : List Int} {fr : List PFr} {hd : List PHd} {sta res cod : Int} {c : Int} (k : maAt S w s f h ⟨z0, z1, z2, z3, st, fr, hd, sta, res, cod⟩) (hF : maF ⟨z0, z1, z2, z3, st, fr, hd, sta, res, cod⟩) {n kf m : Nat} {PC : Int} (hn : hd.length = n + 1) (hg : hd[n]? = some ((kf : Int) + 1, (m : Int), PC)) (hk : kf < fr.length) (hm : m ≤ st.length) :
    Calls Tryz.prog 20 #[maV z0 z1 z2 z3 s f h sta res cod, .int .i64 c] w (ThPostC w (thTo ⟨z0, z1, z2, z3, st, fr, hd, sta, res, cod⟩ ((kf : Int) + 1, (m : Int), PC) c)) := by
  have HA := Lib.hid (show inF ((kf : Int) + 1) 1 fr.length = true from inF_iff.2 (by omega))
  have HB := Lib.hid (show inF (m : Int) 0 st.length = true from inF_iff.2 (by omega))
  have HK := Lib.hid hk
  have HM := Lib.hid hm
  clear hk hm
  have HG := Lib.hid hg
  have HN := Lib.hid hn
  clear hg hn
  obtain ⟨k1, k2, k3⟩ := k
  obtain ⟨a1, c1, rfl⟩ := k1.slice
  obtain ⟨a2, c2, rfl⟩ := k2.slice
  obtain ⟨a3, c3, rfl⟩ := k3.slice
  obtain ⟨W, hW⟩ : ∃ W, (w.alloc (.cells #[.int .i64 z0, .int .i64 z1, .int .i64 z2, .int .i64 z3, .slice a1 st.length c1, .slice a2 fr.length c2, .slice a3 hd.length c3, .int .i64 sta, .int .u64 res, .int .i64 cod] 45)).alloc (.cells #[.int .i64 0, .int .i64 0, .int .i64 0, .int .i64 0, .slice none 0 0, .slice none 0 0, .slice none 0 0, .int .i64 0, .int .u64 0, .int .i64 0] 45) = W := ⟨_, rfl⟩
  have BW := Lib.hid (show Below w.heap.size w W by rw [← hW]; exact down_alloc (down_alloc (Below.refl _ _) _) _)
  have r1 := rowAt.made w 45 [.int .i64 z0, .int .i64 z1, .int .i64 z2, .int .i64 z3, .slice a1 st.length c1, .slice a2 fr.length c2, .slice a3 hd.length c3, .int .i64 sta, .int .u64 res, .int .i64 cod]
  have r2 := rowAt.made_at (w := w.alloc (.cells #[.int .i64 z0, .int .i64 z1, .int .i64 z2, .int .i64 z3, .slice a1 st.length c1, .slice a2 fr.length c2, .slice a3 hd.length c3, .int .i64 sta, .int .u64 res, .int .i64 cod] 45)) (b := w.heap.size + 1) 45 [.int .i64 0, .int .i64 0, .int .i64 0, .int .i64 0, .slice none 0 0, .slice none 0 0, .slice none 0 0, .int .i64 0, .int .u64 0, .int .i64 0] (by simp)
  have R1 := Lib.hid (show rowAt W w.heap.size 45 [.int .i64 z0, .int .i64 z1, .int .i64 z2, .int .i64 z3, .slice a1 st.length c1, .slice a2 fr.length c2, .slice a3 hd.length c3, .int .i64 sta, .int .u64 res, .int .i64 cod] by rw [← hW]; exact r1.alloc _)
  have R2 := Lib.hid (show rowAt W (w.heap.size + 1) 45 [.int .i64 0, .int .i64 0, .int .i64 0, .int .i64 0, .slice none 0 0, .slice none 0 0, .slice none 0 0, .int .i64 0, .int .u64 0, .int .i64 0] by rw [← hW]; exact r2)
  have HS := Lib.hid (show W.heap.size = w.heap.size + 2 by rw [← hW]; simp)
  have KK := Lib.hid (show maAt S W (.slice a1 st.length c1) (.slice a2 fr.length c2) (.slice a3 hd.length c3) ⟨z0, z1, z2, z3, st, fr, hd, sta, res, cod⟩ from ⟨k1.below BW.out, k2.below BW.out, k3.below BW.out⟩)
  have HF := Lib.hid hF
  obtain ⟨d0, d1, d2, d3, d4, d5, d6, d7, d8, d9⟩ := cells10 R1.out
  clear k1 k2 k3 hF r1 r2
  go_enter Tryz.func20, Tryz.ntmps20
  go_wp2_with fail
  refine (own_any (M := ⟨z0, z1, z2, z3, st, fr, hd, sta, res, cod⟩) KK.out HF.out).mono ?_
  rintro e w1 ⟨g1, g2, g3, rfl, ho⟩
  simp only
  have HO := Lib.hid ho
  have x1 := R1.out.below ho.2.2.2.2.2.2.2.2.2 R1.out.lt
  obtain ⟨d0, d1, d2, d3, d4, d5, d6, d7, d8, d9⟩ := cells10 x1
  obtain ⟨p0, p1, p2, p3, p4, p5, p6, p7, p8, p9⟩ := frees10 x1
  have xl := x1.lt
  obtain ⟨W2, hW2⟩ : ∃ W2, (((((((((w1.setCell ⟨w.heap.size, 0, none⟩ (.int .i64 z0)).setCell ⟨w.heap.size, 1, none⟩ (.int .i64 z1)).setCell ⟨w.heap.size, 2, none⟩ (.int .i64 z2)).setCell ⟨w.heap.size, 3, none⟩ (.int .i64 z3)).setCell ⟨w.heap.size, 4, none⟩ (.slice (some ⟨g1, 0, none⟩) st.length st.length)).setCell ⟨w.heap.size, 5, none⟩ (.slice (some ⟨g2, 0, none⟩) fr.length fr.length)).setCell ⟨w.heap.size, 6, none⟩ (.slice (some ⟨g3, 0, none⟩) hd.length hd.length)).setCell ⟨w.heap.size, 7, none⟩ (.int .i64 sta)).setCell ⟨w.heap.size, 8, none⟩ (.int .u64 res)).setCell ⟨w.heap.size, 9, none⟩ (.int .i64 cod) = W2 := ⟨_, rfl⟩
  have I := Lib.hid (show ThIn w W2 z0 z1 z2 z3 st fr hd sta res cod g1 g2 g3 by rw [← hW2]; exact ThIn.of_own HS.out R1.out R2.out BW.out HO.out)
  obtain ⟨e0, e1, e2, e3, e4, e5, e6, e7, e8, e9⟩ := cells10 I.out.r1
  obtain ⟨q0, q1, q2, q3, q4, q5, q6, q7, q8, q9⟩ := frees10 I.out.r1
  obtain ⟨f0, f1, f2, f3, f4, f5, f6, f7, f8, f9⟩ := cells10 I.out.r2
  obtain ⟨u0, u1, u2, u3, u4, u5, u6, u7, u8, u9⟩ := frees10 I.out.r2
  have il := I.out.r1.lt
  have il2 := I.out.r2.lt
  clear ho x1
  have t0 : (((hd.length : Nat) : Int) == 0) = false := by rw [beq_eq_false_iff_ne]; have := HN.out; omega
  have t1 : ((hd.length : Nat) : Int) - 1 = (n : Int) := by have := HN.out; omega
  have t2 : n < hd.length := by have := HN.out; omega
  have t3 : wrap64 (n : Int) = n := by have h1 : hd.length ≤ 100000 := HF.out.n3; have := HN.out; unfold wrap64; omega
  obtain ⟨h0, h1, h2⟩ := hdL_get hd n _ HG.out
  have j0 : W2.cell? ⟨g3, n * 3, none⟩ = some (.int .i64 ((kf : Int) + 1)) := (I.out.o3.cell _).trans h0
  have j1 : W2.cell? ⟨g3, n * 3 + 1, none⟩ = some (.int .i64 (m : Int)) := (I.out.o3.cell _).trans h1
  have j2 : W2.cell? ⟨g3, n * 3 + 2, none⟩ = some (.int .i64 PC) := (I.out.o3.cell _).trans h2
  clear h0 h1 h2
  obtain ⟨W3, hW3⟩ : ∃ W3, W2.alloc (.cells #[.int .i64 ((kf : Int) + 1), .int .i64 (m : Int), .int .i64 PC] 63) = W3 := ⟨_, rfl⟩
  have RH := Lib.hid (show rowAt W3 W2.heap.size 63 [.int .i64 ((kf : Int) + 1), .int .i64 (m : Int), .int .i64 PC] by rw [← hW3]; exact rowAt.made _ _ _)
  have I3 := Lib.hid (show ThIn w W3 z0 z1 z2 z3 st fr hd sta res cod g1 g2 g3 from I.out.more (by rw [← hW3]; exact down_alloc (Below.refl _ _) _))
  have HZ := Lib.hid (show w.heap.size + 1 < W2.heap.size ∧ g1 < W2.heap.size ∧ g2 < W2.heap.size ∧ g3 < W2.heap.size from ⟨I.out.r2.lt, I.out.o1.lt, I.out.o2.lt, I.out.o3.lt⟩)
  have j0' : W3.cell? ⟨W2.heap.size, 0, none⟩ = some (.int .i64 ((kf : Int) + 1)) := RH.out.cell 0
  have j1' : W3.cell? ⟨W2.heap.size, 1, none⟩ = some (.int .i64 (m : Int)) := RH.out.cell 1
  have j2' : W3.cell? ⟨W2.heap.size, 2, none⟩ = some (.int .i64 PC) := RH.out.cell 2
  obtain ⟨x0, x1, x2, x3, x4, x5, x6, x7, x8, x9⟩ := cells10 I3.out.r1
  obtain ⟨y0, y1, y2, y3, y4, y5, y6, y7, y8, y9⟩ := frees10 I3.out.r1
  obtain ⟨v0, v1, v2, v3, v4, v5, v6, v7, v8, v9⟩ := cells10 I3.out.r2
  obtain ⟨m0, m1, m2, m3, m4, m5, m6, m7, m8, m9⟩ := frees10 I3.out.r2
  have jl := I3.out.r1.lt
  have jl2 := I3.out.r2.lt
  go_wp2_with fail
  clear hW3 hW2 hW e0 e1 e2 e3 e4 e5 e6 e7 e8 e9 q0 q1 q2 q3 q4 q5 q6 q7 q8 q9 f0 f1 f2 f3 f4 f5 f6 f7 f8 f9 u0 u1 u2 u3 u4 u5 u6 u7 u8 u9 il il2 d0 d1 d2 d3 d4 d5 d6 d7 d8 d9 p0 p1 p2 p3 p4 p5 p6 p7 p8 p9 xl j0 j1 j2
  refine (within_is HA.out _).mono ?_
  rintro e w4 ⟨rfl, rfl⟩
  go_wp2_with fail
  refine (within_is HB.out _).mono ?_
  rintro e w5 ⟨rfl, rfl⟩
  have sl1 : ∀ w, (Instr.slice 40 (.slice (some ⟨g1, 0, none⟩) st.length st.length) none (some (.int .i64 (m : Int))) none).run Tryz.prog w = .ok (.slice (some ⟨g1, 0, none⟩) m st.length) w := fun w => by
    obtain ⟨i, hi, -, -, -⟩ := info_parts info_W
    exact run_slice_to_w _ _ under_W hi _ HM.out (Nat.le_refl _) w
  have HOWN : Hid ((W3.alloc (.cells #[.int .u64 (wInt c)] 43)).drew.ownsRow 0 43 1 (.slice (some ⟨g1, 0, none⟩) m st.length) m (wdL (st.take m))) := by
    have h := I3.out.o1.alloc (.cells #[.int .u64 (wInt c)] 43)
    rw [show wdL st = wdL (st.take m) ++ wdL (st.drop m) by rw [← List.map_append, List.take_append_drop]] at h
    have n1 : st.length ≤ 100000 := HF.out.n1
    have hm := HM.out
    exact Lib.hid (owns_mk h (Nat.zero_le _) (by rw [List.length_map, List.length_take]; omega) (by rw [List.length_map, List.length_map, List.length_take, List.length_drop]; omega) hm (by unfold maxLen; omega))
  have HROW : Hid (rowAt (W3.alloc (.cells #[.int .u64 (wInt c)] 43)).drew W3.heap.size 43 [.int .u64 (wInt c)]) := rowAt.made _ _ _
  have b1 := down_alloc (Below.refl W3.heap.size W3) (.cells #[.int .u64 (wInt c)] 43)
  have g4 : (W3.alloc (.cells #[.int .u64 (wInt c)] 43)).cell? ⟨w.heap.size, 4, none⟩ = some (.slice (some ⟨g1, 0, none⟩) st.length st.length) := ((I3.out.r1.alloc _).cell 4).trans rfl
  have h1' : (W3.alloc (.cells #[.int .u64 (wInt c)] 43)).cell? ⟨W2.heap.size, 1, none⟩ = some (.int .i64 (m : Int)) := ((RH.out.alloc _).cell 1).trans rfl
  have B1 := Lib.hid (show Below W3.heap.size W3 (W3.alloc (.cells #[.int .u64 (wInt c)] 43)).drew from down_drew b1)
  have hml : m + 1 ≤ 100001 := by have n1 : st.length ≤ 100000 := HF.out.n1; have := HM.out; omega
  obtain ⟨i0, hi, hz0, hz1, hz2⟩ := info_parts info_W
  have HI := Lib.hid hi
  have Z0 := Lib.hid hz0
  have Z1 := Lib.hid hz1
  have Z2 := Lib.hid hz2
  clear b1 hi hz0 hz1 hz2
  go_upto_region 11 with fail
  go_cut [55] (fun _ wx => ∃ a ca, ThC w wx z0 z1 z2 z3 st fr hd sta res cod g2 g3 W2.heap.size ((kf : Int) + 1) (m : Int) PC m c a ca)
  case first =>
    go_region_law (first
      | (refine step_append_w (by rfl) _ _ _ (by rfl) 0 43 i0 (.int .u64 0) 1 8 under_W HI.out Z0.out Z1.out Z2.out (by rfl) (by decide) (.slice (some ⟨g1, 0, none⟩) m st.length) m (wdL (st.take m)) (by rfl) HOWN.out _ 1 1 [.int .u64 (wInt c)] (by rfl) (by rfl) (src_rowF HROW.out 1) (one_w _) ?c1 ?c2 ?c3 ?_; (case c1 => simp only [maxLen]; omega); (case c2 => omega); (case c3 => exact Nat.zero_le _); intro v' w2 hown2 hgrow2 hb2; obtain ⟨a2, c2, rfl⟩ := owns_slice hown2; obtain ⟨ra, rb⟩ := ThC.of I3.out RH.out HZ.out B1.out hown2 hgrow2 hb2; have RB := Lib.hid rb; have rc : w2.cell? ⟨w.heap.size, 4, none⟩ = some (.slice (some ⟨g1, 0, none⟩) st.length st.length) := (ra.cell 4).trans rfl; have rf := ra.free 4; have rl := ra.lt; clear hown2 hgrow2 hb2 ra rb)
      | (go_simp; go_at_call 42; refine (int_any c _).mono ?_; rintro e w6 ⟨rfl, rfl⟩))
    all_goals
      go_wp2_with fail
      go_meet
      exact ⟨_, _, RB.out⟩
  case rest =>
    obtain ⟨a, ca, hc⟩ := hcut
    have C := Lib.hid hc
    have L2 := C.out.l2
    have L3 := C.out.l3
    have LH := C.out.lh
    obtain ⟨fz, hfz⟩ : ∃ u, (frL fr)[kf * 4 + 1]? = some u := ⟨_, List.getElem?_eq_getElem (by have := frL_length fr; have := HK.out; omega)⟩
    clear hc sl1 g4 h1' hml HOWN HROW B1 HI Z0 Z1 Z2 j0' j1' j2' x0 x1 x2 x3 x4 x5 x6 x7 x8 x9 y0 y1 y2 y3 y4 y5 y6 y7 y8 y9 v0 v1 v2 v3 v4 v5 v6 v7 v8 v9 m0 m1 m2 m3 m4 m5 m6 m7 m8 m9 jl jl2
    obtain ⟨W12, h12⟩ : ∃ W12, wc.setCell ⟨w.heap.size, 5, none⟩ (.slice (some ⟨g2, 0, none⟩) (kf + 1) fr.length) = W12 := ⟨_, rfl⟩
    have R12 := Lib.hid (show rowAt W12 w.heap.size 45 [.int .i64 z0, .int .i64 z1, .int .i64 z2, .int .i64 z3, .slice a (m + 1) ca, .slice (some ⟨g2, 0, none⟩) (kf + 1) fr.length, .slice (some ⟨g3, 0, none⟩) hd.length hd.length, .int .i64 sta, .int .u64 res, .int .i64 cod] by rw [← h12]; exact C.out.r1.set 5 _)
    have O12 := Lib.hid (show rowAt W12 g2 65 (frL fr) by rw [← h12]; exact C.out.o2.other _ _ (by simp; omega))
    have H12 := Lib.hid (show rowAt W12 W2.heap.size 63 [.int .i64 ((kf : Int) + 1), .int .i64 (m : Int), .int .i64 PC] by rw [← h12]; exact C.out.rh.other _ _ (by simp; omega))
    have U12 := Lib.hid (show Upon (fun k => k = w.heap.size ∨ k = g2 ∨ k = w.heap.size + 1) wc W12 by rw [← h12]; exact Upon.setCell _ _ (by simp))
    obtain ⟨W13, h13⟩ : ∃ W13, W12.setCell ⟨g2, kf * 4 + 1, none⟩ (.int .i64 PC) = W13 := ⟨_, rfl⟩
    have R13 := Lib.hid (show rowAt W13 w.heap.size 45 [.int .i64 z0, .int .i64 z1, .int .i64 z2, .int .i64 z3, .slice a (m + 1) ca, .slice (some ⟨g2, 0, none⟩) (kf + 1) fr.length, .slice (some ⟨g3, 0, none⟩) hd.length hd.length, .int .i64 sta, .int .u64 res, .int .i64 cod] by rw [← h13]; exact R12.out.other _ _ (by simp; omega))
    have O13 := Lib.hid (show rowAt W13 g2 65 ((frL fr).set (kf * 4 + 1) (.int .i64 PC)) by rw [← h13]; exact O12.out.set _ _)
    have U13 := Lib.hid (show Upon (fun k => k = w.heap.size ∨ k = g2 ∨ k = w.heap.size + 1) wc W13 by rw [← h13]; exact U12.out.set1 (by simp) _)
    obtain ⟨W14, h14⟩ : ∃ W14, W13.setCell ⟨w.heap.size, 6, none⟩ (.slice (some ⟨g3, 0, none⟩) n hd.length) = W14 := ⟨_, rfl⟩
    have R14 := Lib.hid (show rowAt W14 w.heap.size 45 [.int .i64 z0, .int .i64 z1, .int .i64 z2, .int .i64 z3, .slice a (m + 1) ca, .slice (some ⟨g2, 0, none⟩) (kf + 1) fr.length, .slice (some ⟨g3, 0, none⟩) n hd.length, .int .i64 sta, .int .u64 res, .int .i64 cod] by rw [← h14]; exact R13.out.set 6 _)
    have O14 := Lib.hid (show rowAt W14 g2 65 ((frL fr).set (kf * 4 + 1) (.int .i64 PC)) by rw [← h14]; exact O13.out.other _ _ (by simp; omega))
    have U14 := Lib.hid (show Upon (fun k => k = w.heap.size ∨ k = g2 ∨ k = w.heap.size + 1) wc W14 by rw [← h14]; exact U13.out.set1 (by simp) _)
    have Z14 := Lib.hid (show rowAt W14 (w.heap.size + 1) 45 [.int .i64 0, .int .i64 0, .int .i64 0, .int .i64 0, .slice none 0 0, .slice none 0 0, .slice none 0 0, .int .i64 0, .int .u64 0, .int .i64 0] by rw [← h14, ← h13, ← h12]; exact ((C.out.r2.other _ _ (by simp)).other _ _ (by simp; omega)).other _ _ (by simp))
    have c5 : wc.cell? ⟨w.heap.size, 5, none⟩ = some (.slice (some ⟨g2, 0, none⟩) fr.length fr.length) := (C.out.r1.cell 5).trans rfl
    have c5f := C.out.r1.free 5
    have cl := C.out.r1.lt
    have cg0 : wc.cell? ⟨W2.heap.size, 0, none⟩ = some (.int .i64 ((kf : Int) + 1)) := (C.out.rh.cell 0).trans rfl
    have dd5 : W12.cell? ⟨w.heap.size, 5, none⟩ = some (.slice (some ⟨g2, 0, none⟩) (kf + 1) fr.length) := (R12.out.cell 5).trans rfl
    have dg0 : W12.cell? ⟨W2.heap.size, 0, none⟩ = some (.int .i64 ((kf : Int) + 1)) := (H12.out.cell 0).trans rfl
    have dg2 : W12.cell? ⟨W2.heap.size, 2, none⟩ = some (.int .i64 PC) := (H12.out.cell 2).trans rfl
    have dgf : W12.cell? ⟨g2, kf * 4 + 1, none⟩ = some fz := (O12.out.cell _).trans hfz
    have dgz := O12.out.free (kf * 4 + 1)
    have dgl := O12.out.lt
    have ee6 : W13.cell? ⟨w.heap.size, 6, none⟩ = some (.slice (some ⟨g3, 0, none⟩) hd.length hd.length) := (R13.out.cell 6).trans rfl
    have ee6f := R13.out.free 6
    have el := R13.out.lt
    obtain ⟨x0, x1, x2, x3, x4, x5, x6, x7, x8, x9⟩ := cells10 R14.out
    obtain ⟨v0, v1, v2, v3, v4, v5, v6, v7, v8, v9⟩ := cells10 Z14.out
    obtain ⟨m0, m1, m2, m3, m4, m5, m6, m7, m8, m9⟩ := frees10 Z14.out
    have vl := Z14.out.lt
    have sl2 : ∀ w, (Instr.slice 41 (.slice (some ⟨g2, 0, none⟩) fr.length fr.length) none (some (.int .i64 ((kf : Int) + 1))) none).run Tryz.prog w = .ok (.slice (some ⟨g2, 0, none⟩) (kf + 1) fr.length) w := fun w => by
      obtain ⟨i, hi, -, -, -⟩ := info_parts info_F
      exact run_slice_to_w _ _ under_F hi (some ⟨g2, 0, none⟩) (k := kf + 1) (n := fr.length) (c := fr.length) (by have := HK.out; omega) (Nat.le_refl _) w
    have sl3 : ∀ w, (Instr.slice 42 (.slice (some ⟨g3, 0, none⟩) hd.length hd.length) none (some (.int .i64 (n : Int))) none).run Tryz.prog w = .ok (.slice (some ⟨g3, 0, none⟩) n hd.length) w := fun w => by
      obtain ⟨i, hi, -, -, -⟩ := info_parts info_H
      exact run_slice_to_w _ _ under_H hi _ (by have := HN.out; omega) (Nat.le_refl _) w
    have t5 : wrap64 (kf : Int) = kf := by have h1 : fr.length ≤ 100000 := HF.out.n2; have := HK.out; unfold wrap64; omega
    have t6 : kf < kf + 1 := by omega
    clear hfz
    have FIN : ∀ WF, Upon (fun k => k = w.heap.size + 1) W14 WF → ThPostC w (thTo ⟨z0, z1, z2, z3, st, fr, hd, sta, res, cod⟩ ((kf : Int) + 1, (m : Int), PC) c) (.returned (maV z0 z1 z2 z3 (.slice a (m + 1) ca) (.slice (some ⟨g2, 0, none⟩) (kf + 1) fr.length) (.slice (some ⟨g3, 0, none⟩) n hd.length) sta res cod)) WF := fun WF hu => by
      have n3 := C.out.n3
      have hu2 := U14.out.trans hu (fun i _ h => Or.inr (Or.inr h))
      exact th_newC (owns_upon C.out.own hu2 fun g hg h => by have := C.out.far g hg; omega) C.out.far (O14.out.upon hu (by omega)) (C.out.o3.upon hu2 (by omega)) L2 L3 HN.out HK.out HM.out (C.out.hb.trans (hu2.belowB C.out.hb.size fun k hk => by omega))
    have FN := Lib.hid FIN
    clear FIN
    go_wp2_with fail
    refine bodyPost_ret (v := maV z0 z1 z2 z3 (.slice a (m + 1) ca) (.slice (some ⟨g2, 0, none⟩) (kf + 1) fr.length) (.slice (some ⟨g3, 0, none⟩) n hd.length) sta res cod) (by simp [results, Tryz.results20, go_sem, v0, v1, v2, v3, v4, v5, v6, v7, v8, v9]) rfl (FN.out _ ?_)
    iterate 10 refine Upon.set1 ?_ (by rfl) _
    exact Upon.refl _ _


end Go.Proofs.YtajkkinolpkfmaaGreatDoor
