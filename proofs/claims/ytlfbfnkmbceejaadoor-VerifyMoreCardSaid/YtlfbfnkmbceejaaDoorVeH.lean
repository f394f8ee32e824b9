/-
  Package verify: the bits of the hosts' calls.
  Conditions: as each states.
-/
import Derived.Test.YtlfbfnkmbceejaaDoorVeP
namespace Go.Proofs.YtlfbfnkmbceejaaDoor
open Go.ChangeShapes Go.WideShapes Go.ChangeAt Go.RowKit
set_option linter.unusedVariables false
set_option linter.unusedSimpArgs false
set_option maxRecDepth 100000

def callF (acc : Int) (p : PIns) : Int := if p.1 = 36 then bits .or .i64 acc (2 ^ p.2.1.toNat) else acc
def callsFn (acc : Int) (f : PFn) : Int := f.2.2.foldl callF acc
def callsP (P : PPr) : Int := P.1.foldl callsFn 0
theorem foldl_next {α β : Type} (g : β → α → β) (b : β) {l : List α} {k : Nat} {x : α} (h : l[k]? = some x) : (l.take (k + 1)).foldl g b = g ((l.take k).foldl g b) x := by
  have hlt := (List.getElem?_eq_some_iff.1 h).1
  rw [List.take_succ_eq_append_getElem hlt, List.foldl_append]
  have : l[k] = x := (List.getElem?_eq_some_iff.1 h).2
  simp [this]
theorem host_bd {a b : Int} (h : opGood 36 a b = true) : a = 0 ∨ a = 1 ∨ a = 2 ∨ a = 3 := by
  rw [host_good] at h
  have := of_decide_eq_true (Bool.and_eq_true_iff.1 h).1
  omega

set_option maxHeartbeats 8000000 in
theorem calls_any {S : Nat → Prop} {w : World} {v1 v2 v3 : Value} {P : PPr} (hp : prAt S w v1 v2 v3 P) (hG : prG P = true) (hn : P.1.length ≤ 1000000) :
    Calls Tryd.prog 27 #[.agg #[v1, v2, v3]] w fun e w' => e = .returned (.int .i64 (callsP P)) ∧ Below w.heap.size w w' := by
  have HP := Lib.hid hp
  have HG := Lib.hid hG
  obtain ⟨a1, c1, rfl, -⟩ := hp.1
  obtain ⟨a2, c2, rfl, -⟩ := hp.2.1
  obtain ⟨a3, c3, rfl, -⟩ := hp.2.2
  have bW := fun o => down_alloc (Below.refl w.heap.size w) o
  have BW := Lib.hid bW
  clear hp hG bW
  go_enter Tryd.func27, Tryd.ntmps27
  go_wp2_with fail
  go_loopw [3, 11] (fun v i wr => ∃ k : Nat, k ≤ P.1.length ∧ i = .int .i64 k ∧ v = .int .i64 ((P.1.take k).foldl callsFn 0) ∧ Hid (Below w.heap.size w wr)) (fun _ i _ => P.1.length - (intOf i).toNat)
  case atStart => exact ⟨0, Nat.zero_le _, rfl, by simp, Lib.hid (BW.out _)⟩
  case round =>
    obtain ⟨k, hk, rfl, rfl, HB⟩ := hrel
    obtain ⟨acc, hacc⟩ : ∃ acc, (P.1.take k).foldl callsFn 0 = acc := ⟨_, rfl⟩
    have HA := Lib.hid hacc
    rw [hacc]
    clear hacc
    by_cases hlt : k < P.1.length
    · have hltI : (k : Int) < P.1.length := by omega
      obtain ⟨⟨f1, f2, code⟩, hf⟩ : ∃ f, P.1[k]? = some f := ⟨_, List.getElem?_eq_getElem hlt⟩
      have FO := Lib.hid (fnOk_of HG.out hf)
      obtain ⟨cv, ⟨fb, fo, rfl, hfb, e0, e1, e2⟩, hcv⟩ := fn_cells (HP.out.below HB.out).1 hf
      obtain ⟨ca, cc, rfl, hcells⟩ := hcv
      have h0 := FO.out.pos
      have h6 := FO.out.le
      simp only at h0 h6 e0 e1 e2 hcells
      rcases hcells with hz | ⟨cb, co, rfl, -, hcb, hcells⟩
      · omega
      have HCL := Lib.hid hcells
      have HFX := Lib.hid hf
      clear hcells hf
      obtain ⟨wo, hwo⟩ : ∃ wo : World, wo = wr := ⟨_, rfl⟩
      subst hwo
      go_wp2_with fail
      go_loopw [3, 18] (fun v i wr => ∃ j : Nat, j ≤ code.length ∧ i = .int .i64 j ∧ v = .int .i64 ((code.take j).foldl callF acc) ∧ Hid (Below wo.heap.size wo wr)) (fun _ i _ => code.length - (intOf i).toNat)
      case atStart => exact ⟨0, Nat.zero_le _, rfl, by simp, Lib.hid (down_alloc (Below.refl _ _) _)⟩
      case round =>
        obtain ⟨j, hj, rfl, rfl, HB2⟩ := hrel
        obtain ⟨acc2, hacc2⟩ : ∃ acc2, (code.take j).foldl callF acc = acc2 := ⟨_, rfl⟩
        have HA2 := Lib.hid hacc2
        rw [hacc2]
        clear hacc2
        by_cases hjl : j < code.length
        · have hjI : (j : Int) < code.length := by omega
          obtain ⟨⟨o, A, Bb⟩, hx⟩ : ∃ p, code[j]? = some p := ⟨_, List.getElem?_eq_getElem hjl⟩
          have gi := insL_get code j _ hx
          have y0 : wr.cell? ⟨cb, co + j * 3, none⟩ = some (.int .i64 o) := (HB2.out.cell (p := ⟨cb, co + j * 3, none⟩) hcb).trans (HCL.out _ _ gi.1)
          have y1 : wr.cell? ⟨cb, co + j * 3 + 1, none⟩ = some (.int .i64 A) := (HB2.out.cell (p := ⟨cb, co + j * 3 + 1, none⟩) hcb).trans (HCL.out _ _ gi.2.1)
          have y2 : wr.cell? ⟨cb, co + j * 3 + 2, none⟩ = some (.int .i64 Bb) := (HB2.out.cell (p := ⟨cb, co + j * 3 + 2, none⟩) hcb).trans (HCL.out _ _ gi.2.2)
          have hgd : opGood o A Bb = true := FO.out.good _ (List.mem_of_getElem? hx)
          have NX := Lib.hid (foldl_next callF acc hx)
          rw [HA2.out] at NX
          clear gi hx
          by_cases ho : o = 36
          · subst ho
            have hA := host_bd hgd
            rcases hA with rfl | rfl | rfl | rfl
            all_goals
              go_wp2_with fail
              go_roundw
              case rel => exact ⟨j + 1, by omega, by go_num, by rw [NX.out]; simp [callF], Lib.hid (down_alloc HB2.out _)⟩
              case measure => simp [intOf]; omega
          · have t36 : (o == 36) = false := by rw [beq_eq_false_iff_ne]; exact ho
            have NX2 := Lib.hid (show callF acc2 (o, A, Bb) = acc2 by unfold callF; rw [if_neg ho])
            rw [NX2.out] at NX
            clear ho
            go_wp2_with fail
            go_roundw
            case rel => exact ⟨j + 1, by omega, by go_num, by rw [NX.out], Lib.hid (down_alloc HB2.out _)⟩
            case measure => simp [intOf]; omega
        · obtain rfl : j = code.length := by omega
          have NX := Lib.hid (foldl_next callsFn 0 HFX.out)
          rw [HA.out] at NX
          have HA3 := Lib.hid (show callsFn acc (f1, f2, code) = acc2 by rw [← HA2.out, List.take_length]; rfl)
          rw [HA3.out] at NX
          go_wp2_with fail
          go_roundw
          case rel => exact ⟨k + 1, by omega, by go_num, by rw [NX.out], Lib.hid (down_call HB.out HB2.out)⟩
          case measure => simp [intOf]; omega
    · obtain rfl : k = P.1.length := by omega
      have E := Lib.hid (show callsP P = acc by rw [← HA.out, List.take_length]; rfl)
      go_wp2_with fail
      go_ret
      exact ⟨by rw [E.out]; rfl, HB.out⟩
end Go.Proofs.YtlfbfnkmbceejaaDoor
