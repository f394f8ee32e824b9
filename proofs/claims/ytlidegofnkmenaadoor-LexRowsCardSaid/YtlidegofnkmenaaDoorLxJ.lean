/-
  Package arith's Parse, over the library's ParseUint, where the variables of package lex and the library are laid.
  Conditions: the library's variables read as the program's text lays them; at texts of any length below 2^48.
-/
import Derived.Test.YtlidegofnkmenaaDoorLxI
import Derived.Test.YtlidegofnkmenaaDoorLxV
import Derived.Test.YtlidegofnkmenaaDoorShelf
import Derived.Lib.ParseIntBCases
namespace Go.Proofs.YtlidegofnkmenaaDoor
open Go.ChangeShapes Go.WideShapes Go.ChangeAt Go.RowKit
set_option linter.unusedVariables false
set_option linter.unusedSimpArgs false
set_option maxRecDepth 100000

/-- What is parsed: the digits' number, or none. -/
def paN : Lib.NumEnd Nat → Option Nat
  | .ok n => some n
  | _ => none
def paP (l : List UInt8) : Option Nat := if 19 < l.length then none else if l = [] then none else paN (Lib.parseUintM 4611686018427387903 0 l)
def paV (l : List UInt8) : Int := match paP l with | some n => (n : Int) | none => 0
def paO (l : List UInt8) : Bool := (paP l).isSome

theorem pu_empty (w : World) : Calls Tryd.prog 49 #[.string ⟨#[]⟩, .int .i64 10, .int .i64 62] w fun e w' => PuRet .syntax e ∧ Below w.heap.size w w' := by
  go_enter Tryd.func49, Tryd.ntmps49
  go_wp2
  go_ret2
  exact ⟨rfl, Below.refl _ _⟩

/-- The error that comes behind a number that is none. -/
def BadRet (e : Ending) : Prop := ∃ (v : Int) (t : TypeId) (p : Value), e = .returned (.tuple #[.int .u64 v, .iface t p])
def GoodRet (n : Int) (e : Ending) : Prop := e = .returned (.tuple #[.int .u64 n, .nilIface])

theorem toErr_syntax (fn t : ByteArray) (ev : Value) (w : World) (hlim : t.size ≤ 281474976710656) (hv : w.cell? ⟨3, 0, none⟩ = some ev) (hev : ev = .nilIface ∨ ∃ te pe, ev = .iface te pe) :
    Calls Tryd.prog 50 #[.string fn, .string t, .int .i64 10, .int .i64 62, .iface 67 (.int .i64 2)] w fun e w' => (∃ N, e = .returned (.iface 70 (.pointer (some ⟨N, 0, none⟩)))) ∧ Below w.heap.size w w' :=
  (Any.strconv_toError_syntax Tryd.laysNm245 fn t 10 62 ev w hlim hv hev).mono fun e w' ⟨N, he, _, _, hb⟩ => ⟨⟨N, he⟩, hb⟩
theorem toErr_range (fn t : ByteArray) (ev : Value) (w : World) (hlim : t.size ≤ 281474976710656) (hv : w.cell? ⟨4, 0, none⟩ = some ev) (hev : ev = .nilIface ∨ ∃ te pe, ev = .iface te pe) :
    Calls Tryd.prog 50 #[.string fn, .string t, .int .i64 10, .int .i64 62, .iface 67 (.int .i64 1)] w fun e w' => (∃ N, e = .returned (.iface 70 (.pointer (some ⟨N, 0, none⟩)))) ∧ Below w.heap.size w w' :=
  (Any.strconv_toError_range Tryd.laysNm245 fn t 10 62 ev w hlim hv hev).mono fun e w' ⟨N, he, _, _, hb⟩ => ⟨⟨N, he⟩, hb⟩

theorem pub_ok (t : ByteArray) (n : Nat) (a : Int) (ha : a = (n : Int)) (w : World) (h : ∀ w, Calls Tryd.prog 49 #[.string t, .int .i64 10, .int .i64 62] w fun e w' => PuRet (.ok n) e ∧ Below w.heap.size w w') :
    Calls Tryd.prog 46 #[.string t, .int .i64 10, .int .i64 62] w fun e w' => GoodRet a e ∧ Below w.heap.size w w' := by
  have h' : ∀ w, Calls Tryd.prog 49 #[.string t, .int .i64 10, .int .i64 62] w fun e w' => e = .returned (.tuple #[.int .u64 a, .nilIface]) ∧ Below w.heap.size w w' := fun w => (h w).mono fun e w' ⟨he, hb⟩ => ⟨by rw [ha]; exact he, hb⟩
  clear h ha
  go_enter Tryd.func46, Tryd.ntmps46
  go_wp2_with (go_at_call 49; refine (h' _).mono ?_; rintro e w1 ⟨rfl, b1⟩)
  go_ret2
  exact ⟨rfl, b1⟩

theorem pub_syntax (t : ByteArray) (hlim : t.size ≤ 281474976710656) (w : World) (T : LxTab w)
    (h : ∀ w, Calls Tryd.prog 49 #[.string t, .int .i64 10, .int .i64 62] w fun e w' => PuRet .syntax e ∧ Below w.heap.size w w') :
    Calls Tryd.prog 46 #[.string t, .int .i64 10, .int .i64 62] w fun e w' => BadRet e ∧ Below w.heap.size w w' := by
  have h' : ∀ w, Calls Tryd.prog 49 #[.string t, .int .i64 10, .int .i64 62] w fun e w' => e = .returned (.tuple #[.int .u64 0, .iface 67 (.int .i64 2)]) ∧ Below w.heap.size w w' := h
  clear h
  go_enter Tryd.func46, Tryd.ntmps46
  go_wp2_with fail
  refine (h' _).mono ?_
  rintro e w1 ⟨rfl, b1⟩
  have T1 := T.below b1
  obtain ⟨tp, p, hv⟩ := T1.es
  have HV := Lib.hid hv
  clear T T1 hv
  go_wp2_with fail
  refine (toErr_syntax _ t _ _ hlim HV.out (Or.inr ⟨tp, p, rfl⟩)).mono ?_
  rintro e w2 ⟨⟨N, rfl⟩, b2⟩
  go_wp2_with fail
  go_ret2
  exact ⟨⟨_, _, _, rfl⟩, below_chain b1 b2⟩

theorem pub_range (t : ByteArray) (hlim : t.size ≤ 281474976710656) (w : World) (T : LxTab w)
    (h : ∀ w, Calls Tryd.prog 49 #[.string t, .int .i64 10, .int .i64 62] w fun e w' => PuRet .range e ∧ Below w.heap.size w w') :
    Calls Tryd.prog 46 #[.string t, .int .i64 10, .int .i64 62] w fun e w' => BadRet e ∧ Below w.heap.size w w' := by
  have h' : ∀ w, Calls Tryd.prog 49 #[.string t, .int .i64 10, .int .i64 62] w fun e w' => e = .returned (.tuple #[.int .u64 4611686018427387903, .iface 67 (.int .i64 1)]) ∧ Below w.heap.size w w' := h
  clear h
  go_enter Tryd.func46, Tryd.ntmps46
  go_wp2_with fail
  refine (h' _).mono ?_
  rintro e w1 ⟨rfl, b1⟩
  have T1 := T.below b1
  obtain ⟨tp, p, hv⟩ := T1.er
  have HV := Lib.hid hv
  clear T T1 hv
  go_wp2_with fail
  refine (toErr_range _ t _ _ hlim HV.out (Or.inr ⟨tp, p, rfl⟩)).mono ?_
  rintro e w2 ⟨⟨N, rfl⟩, b2⟩
  go_wp2_with fail
  go_ret2
  exact ⟨⟨_, _, _, rfl⟩, below_chain b1 b2⟩

theorem pub_bad (t : ByteArray) (n : Lib.NumEnd Nat) (hn : n = .syntax ∨ n = .range) (hlim : t.size ≤ 281474976710656) (w : World) (T : LxTab w)
    (h : ∀ w, Calls Tryd.prog 49 #[.string t, .int .i64 10, .int .i64 62] w fun e w' => PuRet n e ∧ Below w.heap.size w w') :
    Calls Tryd.prog 46 #[.string t, .int .i64 10, .int .i64 62] w fun e w' => BadRet e ∧ Below w.heap.size w w' := by
  rcases hn with rfl | rfl
  · exact pub_syntax t hlim w T h
  · exact pub_range t hlim w T h

def PaRet (v : Int) (o : Bool) (e : Ending) : Prop := e = .returned (.tuple #[.int .i64 v, .bool o])

theorem parse_long (t : ByteArray) (hl : 19 < t.size) (w : World) :
    Calls Tryd.prog 42 #[.string t] w fun e w' => PaRet 0 false e ∧ Below w.heap.size w w' := by
  have h1 : (19 : Int) < (t.size : Int) := by omega
  go_enter Tryd.func42, Tryd.ntmps42
  go_wp2
  go_ret2
  exact ⟨rfl, Below.refl _ _⟩

theorem parse_bad (t : ByteArray) (hl : t.size ≤ 19) (n : Lib.NumEnd Nat) (hn : n = .syntax ∨ n = .range) (w : World) (T : LxTab w)
    (h : ∀ w, Calls Tryd.prog 49 #[.string t, .int .i64 10, .int .i64 62] w fun e w' => PuRet n e ∧ Below w.heap.size w w') :
    Calls Tryd.prog 42 #[.string t] w fun e w' => PaRet 0 false e ∧ Below w.heap.size w w' := by
  have h1 : (t.size : Int) ≤ (19 : Int) := by omega
  go_enter Tryd.func42, Tryd.ntmps42
  go_wp2_with fail
  refine (pub_bad t n hn (by omega) _ T h).mono ?_
  rintro e w1 ⟨⟨v, ty, p, rfl⟩, b1⟩
  clear T
  go_wp2_with fail
  go_ret2
  exact ⟨rfl, b1⟩

theorem parse_good (t : ByteArray) (hl : t.size ≤ 19) (n : Nat) (hn : n ≤ 4611686018427387903) (w : World)
    (h : ∀ w, Calls Tryd.prog 49 #[.string t, .int .i64 10, .int .i64 62] w fun e w' => PuRet (.ok n) e ∧ Below w.heap.size w w') :
    Calls Tryd.prog 42 #[.string t] w fun e w' => PaRet n true e ∧ Below w.heap.size w w' := by
  have h1 : (t.size : Int) ≤ (19 : Int) := by omega
  obtain ⟨a, ha⟩ : ∃ a : Int, a = (n : Int) := ⟨_, rfl⟩
  have h3 : wrap64 a = a := by unfold wrap64; omega
  have k := fun w => pub_ok t n a ha w h
  rw [← ha]
  clear h ha hn
  go_enter Tryd.func42, Tryd.ntmps42
  go_wp2_with fail
  refine (k _).mono ?_
  rintro e w1 ⟨rfl, b1⟩
  go_wp2_with fail
  go_ret2
  refine ⟨?_, b1⟩
  show Ending.returned (.tuple #[.int .i64 (wrap64 a), .bool true]) = _
  rw [h3]

theorem parse_any (t : ByteArray) (w : World) (T : LxTab w) :
    Calls Tryd.prog 42 #[.string t] w fun e w' => PaRet (paV t.data.toList) (paO t.data.toList) e ∧ Below w.heap.size w w' := by
  have hsz : t.data.toList.length = t.size := by rw [Lib.size_eq]
  by_cases hl : 19 < t.size
  · have e : paP t.data.toList = none := by unfold paP; rw [if_pos (by omega)]
    unfold paV paO
    rw [e]
    exact parse_long t hl w
  · by_cases h0 : t.size = 0
    · have hd : t.data.toList = [] := List.length_eq_zero_iff.1 (by omega)
      have e : paP t.data.toList = none := by unfold paP; rw [if_neg (by omega), if_pos hd]
      have ht : t = ⟨#[]⟩ := by
        obtain ⟨d⟩ := t
        congr 1
        exact Array.toList_inj.1 hd
      unfold paV paO
      rw [e]
      exact parse_bad t (by omega) .syntax (Or.inl rfl) w T (fun w => by rw [ht]; exact pu_empty w)
    · have hne : ¬ t.data.toList = [] := fun h => h0 (by rw [← hsz, h]; rfl)
      have e : paP t.data.toList = paN (Lib.parseUintM 4611686018427387903 0 t.data.toList) := by unfold paP; rw [if_neg (by omega), if_neg hne]
      have k := fun w => pu62 t h0 (by omega) w
      unfold paV paO
      rw [e]
      cases hc : Lib.parseUintM 4611686018427387903 0 t.data.toList with
      | ok n =>
        rw [hc] at k
        exact parse_good t (by omega) n (Lib.parseUintM_le _ _ 0 n (by omega) hc) w k
      | «syntax» =>
        rw [hc] at k
        exact parse_bad t (by omega) _ (Or.inl rfl) w T k
      | range =>
        rw [hc] at k
        exact parse_bad t (by omega) _ (Or.inr rfl) w T k

end Go.Proofs.YtlidegofnkmenaaDoor
