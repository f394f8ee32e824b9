/-
  Package verify: 'statesOf': the states of a function's code.
  Conditions: as each states.
-/
import Derived.Test.YtlfbfnkmbceejaaDoorVeL
namespace Go.Proofs.YtlfbfnkmbceejaaDoor
open Go.ChangeShapes Go.WideShapes Go.ChangeAt Go.RowKit
set_option linter.unusedVariables false
set_option linter.unusedSimpArgs false
set_option maxRecDepth 100000

/-! ## The least number of which something is so -/
theorem exists_least {R : Nat → Prop} : ∀ n, R n → ∃ m, R m ∧ ∀ j, R j → m ≤ j := by
  intro n
  induction n using Nat.strongRecOn with
  | _ n ih =>
    intro h
    by_cases hx : ∃ j, R j ∧ j < n
    · obtain ⟨j, hj, hlt⟩ := hx
      exact ih j hlt hj
    · exact ⟨n, h, fun j hj => Nat.le_of_not_lt fun hlt => hx ⟨j, hj, hlt⟩⟩
open Classical in
noncomputable def leastN (R : Nat → Prop) : Nat := if h : ∃ n, R n then Classical.choose (exists_least h.choose h.choose_spec) else 0
theorem leastN_spec {R : Nat → Prop} {n : Nat} (h : R n) : R (leastN R) ∧ ∀ j, R j → leastN R ≤ j := by
  have hx : ∃ n, R n := ⟨n, h⟩
  unfold leastN
  rw [dif_pos hx]
  exact Classical.choose_spec (exists_least hx.choose hx.choose_spec)

/-- The states of a code, none if it is not right; a slice that reads as them. -/
def stsP (c : List PIns) : Option (List PSt) := if (finP c).wr = true then none else some (finP c).st
def optSt (B : Nat) (r : Option (List PSt)) (v : Value) (w : World) : Prop :=
  match r with
  | none => v = .slice none 0 0
  | some l => ∃ g, v = .slice (some ⟨g, 0, none⟩) l.length l.length ∧ rowAt w g 47 (stL l) ∧ B ≤ g
def StsPost (r : Option (List PSt)) (w : World) (e : Ending) (w' : World) : Prop := ∃ v, e = .returned (.tuple #[v, .bool r.isSome]) ∧ optSt w.heap.size r v w' ∧ Below w.heap.size w w'
def StR (v0 : World) (g bs : Nat) (cv : Value) (c : List PIns) (wr : World) (f : Nat) : Prop :=
  ∃ k tv, WkAt v0.heap.size wr g bs cv tv c k ∧ WkOk c k ∧ muP k ≤ f ∧ muP k ≤ c.length ∧ runP c f k = finP c ∧ Below v0.heap.size v0 wr

theorem tdL_last {l : List Nat} {m : Nat} (h : l.length = m + 1) (rest : List Value) : (tdL l ++ rest)[m]? = some (.int .i64 (l.getLastD 0 : Nat)) := by
  rw [List.getElem?_append_left (by simp; omega), List.getElem?_map]
  have hne : l ≠ [] := fun e => by rw [e] at h; simp at h
  rw [List.getLastD_eq_getLast?, List.getLast?_eq_getElem?, h, Nat.add_sub_cancel, List.getElem?_eq_getElem (by omega)]
  rfl
theorem WkAt.pop {B g bs : Nat} {w : World} {cv : Value} {tg m tc : Nat} {c : List PIns} {k : Wk} (h : WkAt B w g bs cv (.slice (some ⟨tg, 0, none⟩) k.td.length tc) c k) (hm : k.td.length = m + 1) :
    WkAt B (w.setCell ⟨g, 2, none⟩ (.slice (some ⟨tg, 0, none⟩) m tc)) g bs cv (.slice (some ⟨tg, 0, none⟩) m tc) c (popT k) := by
  have hu : Upon (fun x => x = g) w (w.setCell ⟨g, 2, none⟩ (.slice (some ⟨tg, 0, none⟩) m tc)) := Upon.setCell _ _ rfl
  have ho : ∀ x, (Value.slice (some ⟨tg, 0, none⟩) m tc).ownBlock = some x → B ≤ x ∧ x ≠ g ∧ x ≠ bs ∧ x < w.heap.size := fun x hx => h.own x hx
  have hl : (popT k).td.length = m := by unfold popT; simp; omega
  have own : w.ownsRow B 3 1 (.slice (some ⟨tg, 0, none⟩) m tc) m (tdL (popT k).td) := by
    rcases owns_parts h.todo with ⟨h0, _⟩ | ⟨g', cap, rest, h0, h2, h3, h4, h5, h6, h7⟩
    · cases h0
    · cases h0
      have e : tdL k.td ++ rest = tdL (popT k).td ++ ((.int .i64 (lastT k : Nat)) :: rest) := by
        have hne : k.td ≠ [] := fun e => by rw [e] at hm; simp at hm
        have := List.dropLast_concat_getLast hne
        have hg : k.td.getLast hne = lastT k := by unfold lastT; rw [List.getLastD_eq_getLast?, List.getLast?_eq_some_getLast hne]; rfl
        rw [hg] at this
        conv => lhs; rw [← this]
        simp [popT]
      rw [e] at h3
      simp only [List.length_map] at h4 h5
      exact owns_mk h3 h2 (by simp [hl]) (by simp [hl]; omega) (by omega) h7
  exact ⟨h.row.set 2 _, h.sts.other _ _ (fun e => h.ne e.symm), by rw [hl]; exact owns_upon own hu (fun x hx e => (ho x hx).2.1 e), fun x hx => ⟨(ho x hx).1, (ho x hx).2.1, (ho x hx).2.2.1, by simpa [World.setCell] using (ho x hx).2.2.2⟩, h.ne, h.bg, h.bb, h.code.upon hu fun x _ e => by rw [e]; exact h.bg⟩
theorem sts_end {v0 wr : World} {g bs : Nat} {cv tv : Value} {c : List PIns} {k : Wk} {f : Nat} (h : WkAt v0.heap.size wr g bs cv tv c k) (hd : k.td = [] ∨ k.wr = true) (hr : runP c f k = finP c) (hb : Below v0.heap.size v0 wr) :
    (k.wr = true → StsPost (stsP c) v0 (.returned (.tuple #[.slice none 0 0, .bool false])) wr) ∧ (k.wr = false → StsPost (stsP c) v0 (.returned (.tuple #[.slice (some ⟨bs, 0, none⟩) k.st.length k.st.length, .bool true])) wr) := by
  rw [runP_done hd] at hr
  constructor
  · intro e
    have : stsP c = none := by unfold stsP; rw [← hr, if_pos e]
    rw [this]
    exact ⟨_, rfl, rfl, hb⟩
  · intro e
    have : stsP c = some k.st := by unfold stsP; rw [← hr, if_neg (by rw [e]; decide)]
    rw [this]
    exact ⟨_, rfl, ⟨bs, rfl, h.sts, h.bb⟩, hb⟩
theorem come_zero {B g bs : Nat} {w : World} {cv tv : Value} {c : List PIns} {k : Wk} (h : WkAt B w g bs cv tv c k) (T : VeTab w) (hl : k.st.length = c.length) (h6 : c.length ≤ 600) (ht : k.td.length ≤ 600) :
    Calls Tryd.prog 42 #[.pointer (some ⟨g, 0, none⟩), .int .i64 0, .agg #[.int .i64 0, .int .i64 0]] w (ComePost B g bs cv tv c (comeP k 0 (0, 0)) w) :=
  come_any (w0 := w) h T hl h6 ht 0 0 0 (by omega)

set_option maxHeartbeats 8000000 in
theorem statesOf_any {w : World} {cv : Value} {c : List PIns} (hc : rdAt (fun _ => False) w cv c.length (insL c)) (T : VeTab w) (hG : ∀ p ∈ c, insG p = true) (h0 : 0 < c.length) (h6 : c.length ≤ 600) :
    Calls Tryd.prog 36 #[cv] w (StsPost (stsP c) w) := by
  obtain ⟨ca, cc, rfl⟩ := hc.slice
  have t0 := T.w0
  have t1 := T.w1
  obtain ⟨W1, hW1⟩ : ∃ W, w.alloc (.cells #[.int .i64 (-1), .int .i64 (-1)] 47) = W := ⟨_, rfl⟩
  have b1 : Below w.heap.size w W1 := by rw [← hW1]; exact down_alloc (Below.refl _ _) _
  have r1 : rowAt W1 w.heap.size 47 [.int .i64 (-1), .int .i64 (-1)] := by rw [← hW1]; exact rowAt.made _ _ _
  have HC := Lib.hid hc
  have HT := Lib.hid T
  have HG := Lib.hid hG
  have B1 := Lib.hid b1
  have R1 := Lib.hid r1
  clear hc T hG b1 r1
  go_enter Tryd.func36, Tryd.ntmps36
  go_wp2_with fail
  refine (repeat_any (s := stNo) h6 h0 ((R1.out.cell 0).trans rfl) ((R1.out.cell 1).trans rfl)).mono ?_
  rintro e w2 ⟨rfl, hr2, hb2⟩
  have B2 := Lib.hid (down_call B1.out hb2)
  obtain ⟨W3, hW3⟩ : ∃ W, w2.alloc (.cells #[.slice ca c.length cc, .slice (some ⟨W1.heap.size, 0, none⟩) c.length c.length, .slice none 0 0, .bool false] 77) = W := ⟨_, rfl⟩
  have b3 : Below w2.heap.size w2 W3 := by rw [← hW3]; exact down_alloc (Below.refl _ _) _
  have z1 : w.heap.size < W1.heap.size := R1.out.lt
  have z2 : W1.heap.size < w2.heap.size := hr2.lt
  have k3 : WkAt w.heap.size W3 w2.heap.size W1.heap.size (.slice ca c.length cc) (.slice none 0 0) c ⟨List.replicate c.length stNo, [], false⟩ := {
    row := by rw [← hW3]; simpa using rowAt.made w2 77 [.slice ca c.length cc, .slice (some ⟨W1.heap.size, 0, none⟩) c.length c.length, .slice none 0 0, .bool false]
    sts := hr2.below b3 hr2.lt
    todo := World.ownsRow_nil _ _ _ 1
    own := fun x hx => by cases hx
    ne := by omega
    bg := by omega
    bb := by omega
    code := (HC.out.off (T := fun x => w.heap.size ≤ x) fun k hk h => by omega).below (down_call B2.out b3) }
  have K3 := Lib.hid k3
  have B3 := Lib.hid (down_call B2.out b3)
  clear hr2 hb2 b3 k3 t0 t1
  go_wp2_with fail
  refine (come_zero K3.out (HT.out.below B3.out) (by simp) h6 (by simp)).mono ?_
  rintro e w4 ⟨rfl, ⟨tv4, hw4, -⟩, hu4⟩
  have B4 := Lib.hid (B3.out.trans (foot_below K3.out hu4))
  have SR := Lib.hid (show StR w w2.heap.size W1.heap.size (.slice ca c.length cc) c w4 (c.length + 1) from ⟨wk0 c, tv4, hw4, wk0_ok c, by rw [wk0_mu]; omega, by rw [wk0_mu]; omega, rfl, B4.out⟩)
  clear hw4 hu4 hW1 hW3
  obtain ⟨g, hg⟩ : ∃ g, w2.heap.size = g := ⟨_, rfl⟩
  obtain ⟨bs, hbs⟩ : ∃ bs, W1.heap.size = bs := ⟨_, rfl⟩
  rw [hg, hbs] at SR
  rw [hg] at *
  clear K3 B3 B2 B1 R1 B4 z1 z2
  go_wp2_with fail
  go_loopw [5, 6] (fun _ _ wr => ∃ f, Hid (StR w g bs (.slice ca c.length cc) c wr f)) (fun _ _ wr => leastN (StR w g bs (.slice ca c.length cc) c wr))
  case atStart => exact ⟨_, SR⟩
  case round =>
    obtain ⟨f0, HF⟩ := hrel
    have LS := Lib.hid (leastN_spec HF.out)
    obtain ⟨f, hf⟩ : ∃ f, leastN (StR w g bs (.slice ca c.length cc) c wr) = f := ⟨_, rfl⟩
    have hls := LS.out.1
    rw [hf] at hls
    have HLF := Lib.hid hf
    clear hf LS
    obtain ⟨k, tv, hk, ok, m1, m2, hr, hb⟩ := hls
    obtain ⟨ta, tc, rfl⟩ := owns_slice hk.todo
    obtain ⟨d0, d1, d2, d3⟩ := hk.cell
    have K := Lib.hid hk
    have OK := Lib.hid ok
    have HR := Lib.hid hr
    have HB := Lib.hid hb
    have f2 := hk.row.free 2
    by_cases htd : k.td.length = 0
    · have EN := Lib.hid (sts_end hk (.inl (List.length_eq_zero_iff.1 htd)) hr hb)
      have hl : k.st.length = c.length := ok.len
      rw [htd] at d2
      clear hk ok m1 m2 hr hb
      cases hwr : k.wr
      · rw [hwr] at d3
        have E2 := EN.out.2 hwr
        rw [hl] at E2
        have E2 := Lib.hid E2
        clear hwr htd
        go_wp2_with fail
        go_ret2
        exact E2.out
      · rw [hwr] at d3
        have E2 := Lib.hid (EN.out.1 hwr)
        clear hwr htd
        go_wp2_with fail
        go_ret2
        exact E2.out
    · obtain ⟨m, hm⟩ : ∃ m, k.td.length = m + 1 := ⟨k.td.length - 1, by omega⟩
      clear htd
      have hmI : ((k.td.length : Nat) : Int) = (m : Int) + 1 := by omega
      have hmB : (m : Int) ≤ 600 := by unfold muP at m2; omega
      have hmw : wrap64 (m : Int) = m := Go.IntWalk.wrap64_in _ (by omega)
      cases hwr : k.wr
      · rw [hwr] at d3
        rcases owns_parts hk.todo with ⟨-, h1, -⟩ | ⟨tg, cap, rest, h1, h2, h3, h4, h5, h7, h8⟩
        · omega
        cases h1
        have e1 : wr.cell? ⟨tg, m, none⟩ = some (.int .i64 (lastT k : Nat)) := (h3.cell m).trans (tdL_last hm rest)
        have hs2 : ∀ w, (Instr.slice 54 (.slice (some ⟨tg, 0, none⟩) (m + 1) tc) none (some (.int .i64 (m : Int))) none).run Tryd.prog w = .ok (.slice (some ⟨tg, 0, none⟩) m tc) w := fun w => by
          obtain ⟨i, hi, hz0, hz1, hz2⟩ := info_parts info_i64
          exact run_slice_to_w _ _ under_ints hi _ (by omega) (by omega) w
        have hml : (m : Int) < (k.td.length : Nat) := by omega
        have hm1 : (k.td.length : Int) - 1 = m := by omega
        have hm0 : (0 : Int) < (k.td.length : Nat) := by omega
        have la : lastT k < c.length := ok.td _ (by
          have hne : k.td ≠ [] := fun e => by rw [e] at hm; simp at hm
          have : lastT k = k.td.getLast hne := by unfold lastT; rw [List.getLastD_eq_getLast?, List.getLast?_eq_some_getLast hne]; rfl
          rw [this]; exact List.getLast_mem hne)
        have kp := hk.pop hm
        have hne : k.td ≠ [] := fun e => by rw [e] at hm; simp at hm
        have sm := stepP_mu (c := c) hne
        have so := stepP_ok (c := c) ok
        have HSM := Lib.hid sm
        have HSO := Lib.hid so
        have HRS := Lib.hid (show ∀ f', f = f' + 1 → runP c f' (stepP c k) = finP c from fun f' e => by
          rw [← HR.out, e]; exact (runP_step f' (fun h => h.elim hne (by rw [hwr]; decide))).symm)
        have PM := Lib.hid (show muP (popT k) ≤ 600 by have := popT_mu hne; omega)
        have PO := Lib.hid (popT_ok ok)
        have M1 := Lib.hid m1
        have M2 := Lib.hid m2
        obtain ⟨a, ha⟩ : ∃ a, lastT k = a := ⟨_, rfl⟩
        have STEP := Lib.hid (show stepP c k = leaveP c (popT k) a by rw [← ha]; rfl)
        rw [ha] at e1 la
        obtain ⟨W, hW⟩ : ∃ W, wr.setCell ⟨g, 2, none⟩ (.slice (some ⟨tg, 0, none⟩) m tc) = W := ⟨_, rfl⟩
        have bW : Below w.heap.size w W := by rw [← hW]; exact hb.setCell (p := ⟨g, 2, none⟩) hk.bg _
        rw [hW] at kp
        have KP := Lib.hid kp
        have BW := Lib.hid bW
        clear hk ok m1 m2 hr hb h2 h3 h4 h5 h7 h8 hwr kp bW sm so hne ha
        go_wp2_with fail
        refine (leave_any (v0 := w) KP.out HT.out BW.out PO.out HG.out h6 PM.out a la).mono ?_
        rintro e w5 ⟨rfl, ⟨tv5, hw5, -⟩, hu5⟩
        obtain ⟨f', hf'⟩ : ∃ f', f = f' + 1 := ⟨f - 1, by have := M1.out; have := HSM.out; omega⟩
        have R5 := Lib.hid (show StR w g bs (.slice ca c.length cc) c w5 f' from ⟨stepP c k, tv5, by rw [STEP.out]; exact hw5, HSO.out, by have := M1.out; have := HSM.out; omega, by have := M2.out; have := HSM.out; omega, HRS.out f' hf', BW.out.trans (foot_below KP.out hu5)⟩)
        clear hw5 hu5 hW
        go_wp2_with fail
        go_roundw
        case rel => exact ⟨_, R5⟩
        case measure =>
          have h1 := (leastN_spec R5.out).2 _ R5.out
          have h2 := HLF.out
          show leastN (StR w g bs (.slice ca c.length cc) c w5) < leastN (StR w g bs (.slice ca c.length cc) c wr)
          omega
      · have EN := Lib.hid ((sts_end hk (.inr hwr) hr hb).1 hwr)
        rw [hwr] at d3
        clear hk ok m1 m2 hr hb hwr
        go_wp2_with fail
        go_ret2
        exact EN.out
end Go.Proofs.YtlfbfnkmbceejaaDoor
