/-
  Leaves of package order: cmp.Compare, cmp.Or of two, 'compare' of two entries; a map's key laid anew or for the first time.
  Conditions: as stated.
-/
import Derived.Test.YtgcmkhbpkmfpkaaMem
import Derived.Test.YtgcmkhbpkmfpkaaQ
import Derived.StillTailTactics
import Derived.Sort.Grow
namespace Go.Proofs.Ytgcmkhbpkmfpkaa
open Go.ChangeShapes Go.WideShapes Go.ChangeAt Go.RowKit
set_option linter.unusedVariables false
set_option linter.unusedSimpArgs false
set_option maxRecDepth 100000

/-! ## A map's key, whether it is there or not -/

theorem mget_set (k : Int) (v : Value) (j : Int) : ∀ (es : List MapEntry) (i : Nat) (e : MapEntry), keysOnce es → es[i]? = some e → e.key = .int .i64 k →
    mget (es.set i { e with key := .int .i64 k, val := v }) j = if j = k then some v else mget es j
  | [], _, _, _, h, _ => by simp at h
  | d :: es, 0, e, ho, h, hk => by
    simp only [List.getElem?_cons_zero, Option.some.injEq] at h
    subst h
    simp only [List.set_cons_zero, mget, hk]
    by_cases hj : j = k
    · subst hj; simp
    · simp [hj, Ne.symm hj]
  | d :: es, i + 1, e, ho, h, hk => by
    simp only [List.getElem?_cons_succ] at h
    have ih := mget_set k v j es i e ho.2 h hk
    simp only [List.set_cons_succ, mget, ih]
    have hne : ∀ x, d.key = .int .i64 x → x ≠ k := by
      rintro x hx rfl
      have h1 := ho.1 x hx
      have h2 := mget_set x v x es i e ho.2 h hk
      have : ∀ (l : List MapEntry) (i : Nat), l[i]? = some e → mget l x ≠ none := by
        intro l
        induction l with
        | nil => intro i h; simp at h
        | cons y l ih2 =>
          intro i h
          cases i with
          | zero => simp at h; subst h; simp [mget, hk]
          | succ i =>
            simp only [List.getElem?_cons_succ] at h
            simp only [mget]
            split
            · split
              · simp
              · exact ih2 i h
            · exact ih2 i h
      exact this es i h h1
    split
    · rename_i x hx
      have := hne x hx
      by_cases hxj : x = j
      · subst hxj; simp [this]
      · simp [hxj]
    · rfl

theorem keysOnce_set (k : Int) (v : Value) : ∀ (es : List MapEntry) (i : Nat) (e : MapEntry), keysInt es → keysOnce es → es[i]? = some e → e.key = .int .i64 k →
    keysOnce (es.set i { e with key := .int .i64 k, val := v })
  | [], _, _, _, _, h, _ => by simp at h
  | d :: es, 0, e, hi, ho, h, hk => by
    simp only [List.getElem?_cons_zero, Option.some.injEq] at h
    subst h
    refine ⟨fun j hj => ?_, ho.2⟩
    have : k = j := by simpa using hj
    subst this
    exact ho.1 _ hk
  | d :: es, i + 1, e, hi, ho, h, hk => by
    simp only [List.getElem?_cons_succ] at h
    refine ⟨fun j hj => ?_, keysOnce_set k v es i e (fun y hy => hi y (by simp [hy])) ho.2 h hk⟩
    rw [mget_set k v j es i e ho.2 h hk, ho.1 j hj]
    rw [if_neg]
    rintro rfl
    have h1 := ho.1 j hj
    have := mget_set j v j es i e ho.2 h hk
    have : ∀ (l : List MapEntry) (i : Nat), l[i]? = some e → mget l j ≠ none := by
      intro l
      induction l with
      | nil => intro i h; simp at h
      | cons y l ih2 =>
        intro i h
        cases i with
        | zero => simp at h; subst h; simp [mget, hk]
        | succ i =>
          simp only [List.getElem?_cons_succ] at h
          simp only [mget]
          split
          · split
            · simp
            · exact ih2 i h
          · exact ih2 i h
    exact this es i h h1

section
variable {P : Program} {T K E : TypeId} (hT : P.underlying T = some (.map K E)) (hK : P.underlying K = some (.int .i64))
include hT hK

/-- A key laid, whether it was there or not. -/
theorem run_mapUpdate_int {w : World} {b : Nat} {f : Int → Option Value} (h : mapAt w b f) (k : Int) (v : Value) :
    ∃ w', (Instr.mapUpdate T (.map (some b)) (.int .i64 k) v).run P w = .ok () w' ∧ mapAt w' b (fun j => if j = k then some v else f j) ∧ Upon (· = b) w w' := by
  have h0 := h
  obtain ⟨es, c, hb, h1, h2, h3⟩ := h
  obtain ⟨r, hr, hm, hi⟩ := findNow_mget k es.toList 0 h1
  have hck := MapKept.run_checkKey (P := P) (w := w) (kt := K) (k := .int .i64 k) hK (by trivial) false 9999
  have hfk := MapKept.run_findKey (P := P) (w := w) hK hr
  rw [h3] at hm
  cases r with
  | none => exact run_mapUpdate_new hT hK h0 k v (by simpa using hm.symm)
  | some iv =>
    obtain ⟨i, u⟩ := iv
    obtain ⟨_, e, he, hek⟩ := hi i u rfl
    simp only [Nat.sub_zero] at he
    have hea : es[i]? = some e := by simpa using he
    refine ⟨{ w with heap := w.heap.setIfInBounds b (.map (es.modify i fun e' => { e' with key := .int .i64 k, val := v }) c) }, ?_, ?_, ?_⟩
    · have hkt : (Instr.keyThatStays (.int .i64 k) (.int .i64 k)).run P w = .ok (.int .i64 k) w := by simp [Instr.keyThatStays, Instr.sameBits]
      simp [Instr.mapUpdate, run_underlying hT, Result.andThen, MapKept.run_getObj_map hb, hck, hfk, hea, hek, hkt, MapKept.run_setObj_map _ hb]
    · have ht : (es.modify i fun e' => { e' with key := .int .i64 k, val := v }).toList = es.toList.set i { e with key := .int .i64 k, val := v } := by
        apply List.ext_getElem?
        intro m
        simp only [Array.toList_modify, List.getElem?_modify, List.getElem?_set]
        obtain ⟨hlt, hge⟩ := Array.getElem?_eq_some_iff.1 hea
        by_cases hm : i = m
        · subst hm
          simp [hlt, hge]
        · simp [hm]
      refine ⟨_, _, (MapKept.heap_set hb).1, ?_, ?_, ?_⟩
      · intro x hx
        rw [ht] at hx
        rcases List.mem_or_eq_of_mem_set hx with hx | rfl
        · exact h1 x hx
        · exact ⟨k, rfl⟩
      · rw [ht]; exact keysOnce_set k v _ i e h1 h2 he hek
      · intro j
        rw [ht, mget_set k v j _ i e h2 he hek, h3]
    · exact ⟨rfl, rfl, rfl, by simp, fun j _ hj => (MapKept.heap_set hb).2 j hj⟩
end

/-! ## compare -/

def cmpI (a b : Int) : Int := if a < b then -1 else if b < a then 1 else 0
def orI (x y : Int) : Int := if x ≠ 0 then x else y
def cmpE (e f : En) : Int := orI (cmpI e.2 f.2) (cmpI e.1 f.1)
theorem cmpE_lt (e f : En) : decide (cmpE e f < 0) = decide (ltE e f) := by
  unfold cmpE orI cmpI ltE
  apply decide_eq_decide.2
  split <;> split <;> (try split) <;> (try split) <;> omega

theorem compareInt_any (a b : Int) (w : World) :
    Calls Try.prog 49 #[.int .i64 a, .int .i64 b] w fun e w' => e = .returned (.int .i64 (cmpI a b)) ∧ w = w' := by
  by_cases h1 : a < b
  · have hr : cmpI a b = -1 := by unfold cmpI; rw [if_pos h1]
    have HR := Lib.hid hr
    clear hr
    go_enter Try.func49, Try.ntmps49
    go_wp2
    go_ret
    exact ⟨by rw [HR.out]; rfl, rfl⟩
  · by_cases h2 : b < a
    · have hr : cmpI a b = 1 := by unfold cmpI; rw [if_neg h1, if_pos h2]
      have HR := Lib.hid hr
      clear hr
      go_enter Try.func49, Try.ntmps49
      go_wp2
      go_ret
      exact ⟨by rw [HR.out]; rfl, rfl⟩
    · have hr : cmpI a b = 0 := by unfold cmpI; rw [if_neg h1, if_neg h2]
      have HR := Lib.hid hr
      clear hr
      go_enter Try.func49, Try.ntmps49
      go_wp2
      go_ret
      exact ⟨by rw [HR.out]; rfl, rfl⟩

theorem or_two {w : World} {b : Nat} {x y : Int} (h0 : w.cell? ⟨b, 0, none⟩ = some (.int .i64 x)) (h1 : w.cell? ⟨b, 1, none⟩ = some (.int .i64 y)) :
    Calls Try.prog 48 #[.slice (some ⟨b, 0, none⟩) 2 2] w fun e w' => e = .returned (.int .i64 (orI x y)) ∧ w = w' := by
  by_cases hx : x = 0
  · have hr : orI x y = y := by unfold orI; rw [if_neg (by simpa using hx)]
    have f1 : (x != 0) = false := by simpa using hx
    have HR := Lib.hid hr
    clear hr hx
    by_cases hy : y = 0
    · have f2 : (y != 0) = false := by simpa using hy
      have HY := Lib.hid hy
      clear hy
      go_enter Try.func48, Try.ntmps48
      go_wp2
      go_rounds 3
      go_ret
      exact ⟨by rw [HR.out, HY.out]; rfl, rfl⟩
    · have f2 : (y != 0) = true := by simpa using hy
      clear hy
      go_enter Try.func48, Try.ntmps48
      go_wp2
      go_rounds 2
      go_ret
      exact ⟨by rw [HR.out]; rfl, rfl⟩
  · have hr : orI x y = x := by unfold orI; rw [if_pos hx]
    have f1 : (x != 0) = true := by simpa using hx
    have HR := Lib.hid hr
    clear hr hx
    go_enter Try.func48, Try.ntmps48
    go_wp2
    go_rounds 1
    go_ret
    exact ⟨by rw [HR.out]; rfl, rfl⟩

end Go.Proofs.Ytgcmkhbpkmfpkaa
