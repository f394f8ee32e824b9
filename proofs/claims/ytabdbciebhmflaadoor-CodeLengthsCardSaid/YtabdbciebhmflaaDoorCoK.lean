/-
  The contracts of the statements' own helpers over programs: Ints, Texts, Bytes.
  Conditions: as each states.
-/
import Derived.Test.YtabdbciebhmflaaDoorCoQ2
namespace Go.Proofs.YtabdbciebhmflaaDoor
open Go.ChangeShapes Go.WideShapes Go.ChangeAt Go.RowKit
set_option linter.unusedVariables false
set_option linter.unusedSimpArgs false
set_option maxRecDepth 100000

theorem rdAt.reads {S : Nat → Prop} {w : World} {v : Value} {n : Nat} {cs : List Value} (h : rdAt S w v n cs) : readsAt w v n cs := by
  obtain ⟨a, c, rfl, h⟩ := h
  refine ⟨a, c, rfl, ?_⟩
  rcases h with h | ⟨b, o, rfl, -, -, hc⟩
  · exact .inl h
  · exact .inr ⟨b, o, rfl, hc⟩
theorem bySl.of_owns {B0 : Nat} {w : World} {B : Nat} {v : Value} {n : Nat} {l : List Int} (h : w.ownsRow B 5 1 v n (bytesL l)) (hn : n = l.length) (hB : ∀ g, v.ownBlock = some g → g < B0) : bySl B0 w v l := by
  subst hn
  rcases owns_parts h with ⟨rfl, h1, h2⟩ | ⟨g, cap, rest, rfl, hg, hr, hl, hcap, hn, hm⟩
  · obtain rfl := List.length_eq_zero_iff.1 h1
    exact ⟨none, 0, rfl, Nat.le_refl _, Nat.zero_le _, .inl rfl⟩
  · refine ⟨_, _, rfl, hn, hm, .inr ⟨g, 0, rfl, hB g rfl, hr.lt, fun j z hj => ?_⟩⟩
    rw [hr.cell, Nat.zero_add, List.getElem?_append_left (by simp; exact (List.getElem?_eq_some_iff.1 hj).1), List.getElem?_map, hj]
    rfl
theorem bySl.more {B0 B1 : Nat} {w : World} {v : Value} {l : List Int} (h : bySl B0 w v l) (hB : B0 ≤ B1) : bySl B1 w v l := by
  obtain ⟨a, c, rfl, h1, h2, h⟩ := h
  exact ⟨a, c, rfl, h1, h2, h.imp_right fun ⟨b, o, e, hb, x⟩ => ⟨b, o, e, by omega, x⟩⟩
theorem bySl.all {B0 : Nat} {w : World} {v : Value} {l : List Int} (h : bySl B0 w v l) : bySl w.heap.size w v l := by
  obtain ⟨a, c, rfl, h1, h2, h⟩ := h
  exact ⟨a, c, rfl, h1, h2, h.imp_right fun ⟨b, o, e, hb, hb2, x⟩ => ⟨b, o, e, hb2, hb2, x⟩⟩
theorem bySl.below {B0 : Nat} {w w' : World} {v : Value} {l : List Int} (h : bySl B0 w v l) (hb : Below w.heap.size w w') : bySl B0 w' v l := h.upon (upon_of_below hb) fun _ _ t => t.elim
theorem byI_inj {l m : List Int} (hl : ∀ z ∈ l, 0 ≤ z ∧ z < 256) (hm : ∀ z ∈ m, 0 ≤ z ∧ z < 256) (h : byI l = byI m) : l = m := by
  rw [← strI_byI l hl, ← strI_byI m hm, h]

theorem keepBytes_any {B0 B1 : Nat} {w : World} {u v : Value} {l m : List Int} (hu : bySl B0 w u l) (hv : bySl B1 w v m) (hl : ∀ z ∈ l, 0 ≤ z ∧ z < 256) (hm : ∀ z ∈ m, 0 ≤ z ∧ z < 256) :
    Calls Tryd.prog 16 #[u, v] w fun e w' => e = .returned (.bool (decide (l = m))) ∧ w = w' := by
  have c1 := conv_bytes hu
  have c2 := conv_bytes hv
  obtain ⟨a, c, rfl, -⟩ := hu
  obtain ⟨a2, c2', rfl, -⟩ := hv
  by_cases h : l = m
  · have E := Lib.hid (show decide (l = m) = true from decide_eq_true h)
    have e : byI l = byI m := by rw [h]
    rw [e] at c1
    have t1 : ((byI m).toList == (byI m).toList) = true := by simp
    clear h e hl hm
    go_enter Tryd.func16, Tryd.ntmps16
    go_wp2_with fail
    go_ret
    exact ⟨ret_bool (by rw [E.out]), rfl⟩
  · have E := Lib.hid (show decide (l = m) = false from decide_eq_false h)
    have ne : byI l ≠ byI m := fun e => h (byI_inj hl hm e)
    have t1 : ((byI l).toList == (byI m).toList) = false := by
      rw [beq_eq_false_iff_ne]
      intro e
      rw [ByteArray.toList_eq, ByteArray.toList_eq] at e
      exact ne (ByteArray.ext (Array.ext' e))
    generalize byI l = s at *
    generalize byI m = t at *
    clear h hl hm
    go_enter Tryd.func16, Tryd.ntmps16
    go_wp2_with fail
    go_ret
    exact ⟨ret_bool (by rw [E.out]), rfl⟩

theorem keepInts_any {w : World} {u v : Value} {xs ys : List Int} (hu : readsAt w u xs.length (intL xs)) (hv : readsAt w v ys.length (intL ys)) (hx : xs.length ≤ 140737488355328) :
    Calls Tryd.prog 32 #[u, v] w fun e w' => e = .returned (.bool (decide (xs = ys))) ∧ ∃ q, w' = w.drewN q := by
  obtain ⟨a, c, rfl, ha⟩ := hu
  obtain ⟨a2, c2, rfl, ha2⟩ := hv
  by_cases hlen : xs.length = ys.length
  · rcases ha with h0 | ⟨b, o, rfl, hc⟩
    · have hx : xs = [] := List.length_eq_zero_iff.1 h0
      subst hx
      have hy : ys = [] := List.length_eq_zero_iff.1 (by rw [← hlen]; rfl)
      subst hy
      clear hlen h0 ha2
      go_enter Tryd.func32, Tryd.ntmps32
      go_wp2
      go_rounds 1
      go_ret
      exact ⟨rfl, 0, rfl⟩
    · rcases ha2 with h0 | ⟨b2, o2, rfl, hc2⟩
      · have hx : xs = [] := List.length_eq_zero_iff.1 (by omega)
        subst hx
        have hy : ys = [] := List.length_eq_zero_iff.1 h0
        subst hy
        clear hlen h0 hc
        go_enter Tryd.func32, Tryd.ntmps32
        go_wp2
        go_rounds 1
        go_ret
        exact ⟨rfl, 0, rfl⟩
      · have HC : Hid (∀ j u, (intL xs)[j]? = some u → w.cell? ⟨b, o + j, none⟩ = some u) := hc
        have HC2 : Hid (∀ j u, (intL ys)[j]? = some u → w.cell? ⟨b2, o2 + j, none⟩ = some u) := hc2
        have HL := Lib.hid hlen
        rw [← hlen]
        clear hc hc2 hlen
        go_enter Tryd.func32, Tryd.ntmps32
        go_wp2
        go_loopw [5] (fun i wr => ∃ k q : Nat, k ≤ xs.length ∧ i = .int .i64 k ∧ wr = w.drewN q ∧ Hid (xs.take k = ys.take k)) (fun i _ => xs.length - (intOf i).toNat)
        case atStart => exact ⟨0, 0, Nat.zero_le _, rfl, rfl, by simp [Hid]⟩
        case round =>
          obtain ⟨k, q, hk, rfl, rfl, HT⟩ := hrel
          by_cases hlt : k < xs.length
          · have hlt2 : k < ys.length := by rw [← HL.out]; exact hlt
            have e1 : w.cell? ⟨b, o + k, none⟩ = some (.int .i64 xs[k]) := HC.out k _ (by simp [hlt])
            have e2 : w.cell? ⟨b2, o2 + k, none⟩ = some (.int .i64 ys[k]) := HC2.out k _ (by simp [hlt2])
            by_cases heq : xs[k] = ys[k]
            · have f1 : (xs[k] != ys[k]) = false := by simpa using heq
              have HE := Lib.hid heq
              clear heq
              go_wp2
              go_quiet (fail)
              go_wp2
              go_roundw
              case rel => exact ⟨k + 1, _, by omega, by go_num, rfl, by show _ = _; rw [List.take_succ_eq_append_getElem hlt, List.take_succ_eq_append_getElem hlt2, HT.out, HE.out]⟩
              case measure => simp [intOf]; omega
            · have f1 : (xs[k] != ys[k]) = true := by simpa using heq
              have hne : decide (xs = ys) = false := decide_eq_false fun e => by subst e; exact heq rfl
              have HN := Lib.hid hne
              clear heq hne
              go_wp2
              go_quiet (fail)
              go_wp2
              go_ret
              exact ⟨by rw [HN.out]; rfl, _, by rw [World.drewN_drewN]⟩
          · have hke : k = xs.length := by omega
            have hdec : decide (xs = ys) = true := decide_eq_true (by
              have := HT.out
              rw [List.take_of_length_le (by omega), List.take_of_length_le (by have := HL.out; omega)] at this
              exact this)
            have HD := Lib.hid hdec
            clear hdec hke
            have hge : xs.length ≤ k := by omega
            clear hlt
            go_wp2
            go_ret
            exact ⟨by rw [HD.out]; rfl, _, rfl⟩
  · have hne : decide (xs = ys) = false := decide_eq_false fun e => by subst e; exact hlen rfl
    have HN := Lib.hid hne
    have hl : ((xs.length : Int) != (ys.length : Int)) = true := by simp; omega
    clear hne hlen ha ha2
    go_enter Tryd.func32, Tryd.ntmps32
    go_wp2
    go_ret
    exact ⟨by rw [HN.out]; rfl, 0, rfl⟩

theorem keepTexts_any {w : World} {u v : Value} {xs ys : List ByteArray} (hu : readsAt w u xs.length (strL xs)) (hv : readsAt w v ys.length (strL ys)) (hx : xs.length ≤ 140737488355328) :
    Calls Tryd.prog 31 #[u, v] w fun e w' => e = .returned (.bool (decide (xs = ys))) ∧ ∃ q, w' = w.drewN q := by
  obtain ⟨a, c, rfl, ha⟩ := hu
  obtain ⟨a2, c2, rfl, ha2⟩ := hv
  by_cases hlen : xs.length = ys.length
  · rcases ha with h0 | ⟨b, o, rfl, hc⟩
    · have hx : xs = [] := List.length_eq_zero_iff.1 h0
      subst hx
      have hy : ys = [] := List.length_eq_zero_iff.1 (by rw [← hlen]; rfl)
      subst hy
      clear hlen h0 ha2
      go_enter Tryd.func31, Tryd.ntmps31
      go_wp2
      go_rounds 1
      go_ret
      exact ⟨rfl, 0, rfl⟩
    · rcases ha2 with h0 | ⟨b2, o2, rfl, hc2⟩
      · have hx : xs = [] := List.length_eq_zero_iff.1 (by omega)
        subst hx
        have hy : ys = [] := List.length_eq_zero_iff.1 h0
        subst hy
        clear hlen h0 hc
        go_enter Tryd.func31, Tryd.ntmps31
        go_wp2
        go_rounds 1
        go_ret
        exact ⟨rfl, 0, rfl⟩
      · have HC : Hid (∀ j u, (strL xs)[j]? = some u → w.cell? ⟨b, o + j, none⟩ = some u) := hc
        have HC2 : Hid (∀ j u, (strL ys)[j]? = some u → w.cell? ⟨b2, o2 + j, none⟩ = some u) := hc2
        have HL := Lib.hid hlen
        rw [← hlen]
        clear hc hc2 hlen
        go_enter Tryd.func31, Tryd.ntmps31
        go_wp2
        go_loopw [5] (fun i wr => ∃ k q : Nat, k ≤ xs.length ∧ i = .int .i64 k ∧ wr = w.drewN q ∧ Hid (xs.take k = ys.take k)) (fun i _ => xs.length - (intOf i).toNat)
        case atStart => exact ⟨0, 0, Nat.zero_le _, rfl, rfl, by simp [Hid]⟩
        case round =>
          obtain ⟨k, q, hk, rfl, rfl, HT⟩ := hrel
          by_cases hlt : k < xs.length
          · have hlt2 : k < ys.length := by rw [← HL.out]; exact hlt
            have e1 : w.cell? ⟨b, o + k, none⟩ = some (.string xs[k]) := HC.out k _ (by simp [hlt])
            have e2 : w.cell? ⟨b2, o2 + k, none⟩ = some (.string ys[k]) := HC2.out k _ (by simp [hlt2])
            by_cases heq : xs[k] = ys[k]
            · have f1 : (xs[k].toList != ys[k].toList) = false := by simp [heq]
              have f2 : (xs[k].toList == ys[k].toList) = true := by simp [heq]
              have HE := Lib.hid heq
              clear heq
              go_wp2
              go_quiet (fail)
              go_wp2
              go_roundw
              case rel => exact ⟨k + 1, _, by omega, by go_num, rfl, by show _ = _; rw [List.take_succ_eq_append_getElem hlt, List.take_succ_eq_append_getElem hlt2, HT.out, HE.out]⟩
              case measure => simp [intOf]; omega
            · have f0 : ¬ xs[k].toList = ys[k].toList := fun e => heq (ByteArray.ext (Array.ext' (by rwa [ByteArray.toList_eq, ByteArray.toList_eq] at e)))
              have f1 : (xs[k].toList != ys[k].toList) = true := by simpa using f0
              have f2 : (xs[k].toList == ys[k].toList) = false := by simpa using f0
              clear f0
              have hne : decide (xs = ys) = false := decide_eq_false fun e => by subst e; exact heq rfl
              have HN := Lib.hid hne
              clear heq hne
              go_wp2
              go_quiet (fail)
              go_wp2
              go_ret
              exact ⟨by rw [HN.out]; rfl, _, by rw [World.drewN_drewN]⟩
          · have hke : k = xs.length := by omega
            have hdec : decide (xs = ys) = true := decide_eq_true (by
              have := HT.out
              rw [List.take_of_length_le (by omega), List.take_of_length_le (by have := HL.out; omega)] at this
              exact this)
            have HD := Lib.hid hdec
            clear hdec hke
            have hge : xs.length ≤ k := by omega
            clear hlt
            go_wp2
            go_ret
            exact ⟨by rw [HD.out]; rfl, _, rfl⟩
  · have hne : decide (xs = ys) = false := decide_eq_false fun e => by subst e; exact hlen rfl
    have HN := Lib.hid hne
    have hl : ((xs.length : Int) != (ys.length : Int)) = true := by simp; omega
    clear hne hlen ha ha2
    go_enter Tryd.func31, Tryd.ntmps31
    go_wp2
    go_ret
    exact ⟨by rw [HN.out]; rfl, 0, rfl⟩

end Go.Proofs.YtabdbciebhmflaaDoor
