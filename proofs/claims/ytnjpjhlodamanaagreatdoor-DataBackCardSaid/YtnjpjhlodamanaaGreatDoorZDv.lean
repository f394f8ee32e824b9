/-
  Package data: what comes in ('In'): facts for its walk.
  Conditions: as each states.
-/
import Derived.Test.YtnjpjhlodamanaaGreatDoorZDt
import Derived.Deep.DeepCutAuto
import Derived.Deep.CutBlock
import Derived.Deep.RegionHeld3
namespace Go.Proofs.YtnjpjhlodamanaaGreatDoor
set_option linter.unusedVariables false
set_option linter.unusedSimpArgs false
open Go.ChangeShapes Go.WideShapes Go.ChangeAt Go.RowKit
set_option maxRecDepth 100000

theorem whB_len : ∀ (m : List PCe) (k : Int), 0 ≤ k → whB k m = true → k ≤ (m.length : Int)
  | [], k, _, h => by have : k = 0 := by simpa [whB] using h
                      simp [this]
  | c :: m, k, hk, h => by
    obtain ⟨h0, h1, h2⟩ := whB_cons h
    have hh := hasC_nn h1
    have := whB_len m _ (by omega) h2
    rw [List.length_cons]
    omega
theorem newO_end {obs X : List Ob} {c : PCe} (h0 : c.1 ≠ 0) : objAt (obs ++ (X ++ newO c)) (flat (obs ++ X)).length = some (obC c) := by
  rw [← List.append_assoc]
  unfold newO
  rw [if_neg h0]
  exact objAt_here (obs ++ X) [] _
/-- The word that fills the first gap may be set there. -/
theorem set_laid {A : Ar} {base half space tp : Int} {obs X : List Ob} {w0 : Int} {done : List PCe} {q : Nat × Nat} {G : List (Nat × Nat)} {c : PCe} (ok : A.Ok) (ho : A.objs base half space tp = some (obs ++ (X ++ newO c)))
    (hI : InI (space * half) obs X w0 done (q :: G)) (hg : goodC c = true) (h1 : space * half + ((flat (obs ++ X)).length : Int) ≤ 4294967295) :
    ∃ z, A.setAt base half space tp (wPlace (space * half + (q.1 : Int))) q.2 (wordOf (space * half) (flat (obs ++ X)).length c) = some z ∧
      (A.set base z (wordOf (space * half) (flat (obs ++ X)).length c)).objs base half space tp = some (setAll (obs ++ (X ++ newO c)) q.1 q.2 (wordOf (space * half) (flat (obs ++ X)).length c)) := by
  obtain ⟨h2, h3, h4, h5, h6⟩ := objs_top ok ho
  obtain ⟨_, o, hgo, _, hgl⟩ := hI.gap q (by simp)
  have hgo2 : objAt (obs ++ (X ++ newO c)) q.1 = some o := by rw [← List.append_assoc]; exact objAt_append _ hgo
  have hlt := objAt_lt hgo
  have hr := refers_place hgo2 h3 (by omega)
  have hf : fieldOk (space * half) (obs ++ (X ++ newO c)) (wordOf (space * half) (flat (obs ++ X)).length c) = true := by
    unfold fieldOk wordOf
    by_cases h0 : c.1 = 0
    · rw [if_pos h0, (wVal_wInt (num_cell hg h0).2).2, Bool.or_true]
    · rw [if_neg h0, refers_place (newO_end h0) h3 h1]; rfl
  refine ⟨space * half + (q.1 : Int) + 1 + (q.2 : Int), ?_, objs_set ok ho hgo2 hgl hf (wordOf_fit _ _ _ h3 h1)⟩
  unfold Ar.setAt
  rw [ho]
  simp only [hr, hgo2]
  rw [if_pos ⟨by omega, by omega, hf⟩]
structure InH (base half space tp : Int) (w : World) (p : Nat) (F : Nat → Prop) (A : Ar) (wr : World) : Prop where
  u : Step F F w wr
  hp : rowAt wr w.heap.size 24 [.int .i64 base, .int .i64 half, .int .i64 space, .int .i64 tp]
  rs : rowAt wr (w.heap.size + 1) 24 [.int .i64 0, .int .i64 0, .int .i64 0, .int .i64 0]
  held : Held wr p F A
  fl : ∀ k, F k → k < w.heap.size
section
variable {base half space tp : Int} {w : World} {p : Nat} {F : Nat → Prop} {A A' : Ar} {wr wr' : World}
theorem InH.below (h : InH base half space tp w p F A wr) (hb : Below wr.heap.size wr wr') : InH base half space tp w p F A wr' :=
  ⟨h.u.chain (Step.of_below hb), h.hp.below hb h.hp.lt, h.rs.below hb h.rs.lt, h.held.below hb, h.fl⟩
theorem InH.step (h : InH base half space tp w p F A wr) (hs : Step F F wr wr') (hh : Held wr' p F A') : InH base half space tp w p F A' wr' :=
  ⟨h.u.chain hs, h.hp.upon hs.upon fun e => by have := h.fl _ e; omega, h.rs.upon hs.upon fun e => by have := h.fl _ e; omega, hh, h.fl⟩
theorem InH.heap (h : InH base half space tp w p F A wr) (tp' : Int) :
    InH base half space tp' w p F A ((((wr.setCell ⟨w.heap.size, 0, none⟩ (.int .i64 base)).setCell ⟨w.heap.size, 1, none⟩ (.int .i64 half)).setCell ⟨w.heap.size, 2, none⟩ (.int .i64 space)).setCell ⟨w.heap.size, 3, none⟩ (.int .i64 tp')) := by
  have hu : Upon (fun k => k = w.heap.size) wr _ := upon_set4 (S := fun k => k = w.heap.size) (w := wr) (b := w.heap.size) rfl (a := .int .i64 base) (c := .int .i64 half) (d := .int .i64 space) (e := .int .i64 tp')
  refine ⟨step_new h.u hu (fun k e => by omega), ((((h.hp.set 0 _).set 1 _).set 2 _).set 3 _), h.rs.upon hu (fun e => by omega), h.held.upon hu (fun k hk e => by have := h.fl k hk; omega), h.fl⟩
theorem InH.room (h : InH base half space tp w p F A wr) (first : Int) {zs : List Value} (hz : zs.length = 200) : InW first base half space tp w wr.heap.size p F A [] (wr.alloc (.cells ⟨zs⟩ 78)) := by
  have hb : Below wr.heap.size wr (wr.alloc (.cells ⟨zs⟩ 78)) := bl_alloc (Below.refl _ _) _
  have h' := h.below hb
  exact ⟨h'.u, h'.hp, h'.rs, ⟨zs, rowAt.made _ _ _, rfl, by simp [gapsV, hz]⟩, h'.held, h.rs.lt, h.fl⟩
theorem InW.h {first : Int} {g : Nat} {G : List (Nat × Nat)} (h : InW first base half space tp w g p F A G wr) : InH base half space tp w p F A wr := ⟨h.u, h.hp, h.rs, h.held, h.fl⟩
theorem gaps_todo {first : Int} {g : Nat} {G H : List (Nat × Nat)} (h : InW first base half space tp w g p F A H wr) {u : Int} {pl j : Nat} {e : Ending} (hG : roomA wr g 78 2 G.length (gapsV first G)) (ht : GapT g G.length (gapsV first G) u j wr e wr') (hu : j = 0 ∨ u = wPlace (first + (pl : Int))) :
    e = .returned (.slice (some ⟨g, 0, none⟩) (gapsOf pl j ++ G).length 100) ∧ InW first base half space tp w g p F A (gapsOf pl j ++ G) wr' := by
  obtain ⟨he, hr, hup⟩ := ht
  have hl : G.length + j = (gapsOf pl j ++ G).length := by simp [gapsOf]; omega
  have hv : gapsV first G ++ gapDn u j j = gapsV first (gapsOf pl j ++ G) := by
    rw [gapsV_app, gapsV_new]
    rcases hu with rfl | rfl
    · rfl
    · rfl
  rw [hv] at hr
  exact ⟨by rw [he, hl], h.todo hr hl hup⟩
end
theorem gapsC_eq {p : Nat} {c : PCe} {j : Nat} (h : hasC c = (j : Int)) : gapsC p c = gapsOf p j := by unfold gapsC; rw [h]; rfl
theorem word_gap {first : Int} {p : Nat} {c : PCe} {j : Nat} (hg : goodC c = true) (h : hasC c = (j : Int)) : j = 0 ∨ wordOf first p c = wPlace (first + (p : Int)) := by
  by_cases h0 : c.1 = 0
  · left
    unfold hasC at h
    rw [if_neg (by omega)] at h
    omega
  · right
    unfold wordOf
    rw [if_neg h0]
end Go.Proofs.YtnjpjhlodamanaaGreatDoor

/-
  Package data: what comes in ('In'): where it may be.
  Conditions: as each states.
-/
namespace Go.Proofs.YtnjpjhlodamanaaGreatDoor
set_option linter.unusedVariables false
set_option linter.unusedSimpArgs false
open Go.ChangeShapes Go.WideShapes Go.ChangeAt Go.RowKit
set_option maxRecDepth 100000

theorem rd_tail {S : Nat → Prop} {w : World} {b o cap : Nat} {c : PCe} {mr : List PCe} (h : rdAt S w (.slice (some ⟨b, o, none⟩) (mr.length + 1) cap) (mr.length + 1) (ceL (c :: mr))) (hcap : mr.length + 1 ≤ cap) :
    rdAt S w (.slice (if cap = 1 then some ⟨b, o, none⟩ else (some (⟨b, o, none⟩ : Addr)).map (·.add (1 * 4))) mr.length (cap - 1)) mr.length (ceL mr) := by
  refine ⟨_, _, rfl, ?_⟩
  by_cases h0 : mr.length = 0
  · exact .inl h0
  · right
    rw [if_neg (by omega)]
    obtain ⟨a, c', e, h⟩ := h
    cases e
    rcases h with h | ⟨b', o', e, hS, hb, hc⟩
    · omega
    · cases e
      refine ⟨b, o + 4, by simp [Addr.add], hS, hb, fun j u hj => ?_⟩
      have := hc (j + 4) u (by
        have e4 : ceL (c :: mr) = ceC c ++ ceL mr := by simp [ceL]
        rw [e4, List.getElem?_append_right (by simp [ceC])]
        simpa [ceC] using hj)
      rw [show o + 4 + j = o + (j + 4) by omega]
      exact this
/-- Behind the first cell. -/
def CutI (first base half space top : Int) (obs : List Ob) (c : PCe) (w : World) (p : Nat) (F : Nat → Prop) (w0 : Int) (v9 v11 : Value) (wx : World) : Prop :=
  ∃ A' X G g, v9 = .int .u64 w0 ∧ v11 = .slice (some ⟨g, 0, none⟩) G.length 100 ∧ InW first base half space (top + (wordsC c : Nat)) w g p F A' G wx ∧ A'.objs base half space (top + (wordsC c : Nat)) = some (obs ++ X) ∧ InI first obs X w0 [c] G ∧ (G.length : Int) = hasC c

set_option maxHeartbeats 16000000 in
theorem in_good {w : World} {p : Nat} {F : Nat → Prop} {A : Ar} (hA : Held w p F A) (base half space top : Int) {a : Option Addr} {cap : Nat} {m : List PCe} (hr : rdAt F w (.slice a m.length cap) m.length (ceL m)) (hcap : m.length ≤ cap)
    {obs : List Ob} (ho : A.objs base half space top = some obs) (hg : goodMs m = true) (hw : (wordsM m : Int) ≤ half - top) :
    Calls Tryz.prog 10 #[.pointer (some ⟨p, 0, none⟩), heapV base half space top, .slice a m.length cap] w (InT A base half space top m p F w) := by
  obtain ⟨c0, mr, rfl⟩ : ∃ c0 mr, m = c0 :: mr := by
    cases m with
    | nil => exact absurd rfl (goodMs_ne hg)
    | cons c r => exact ⟨c, r, rfl⟩
  obtain ⟨ht, hs0, hs1, hth, hh2⟩ := objs_top hA.ok ho
  have hwr : IntKind.i64.wrap (half - top) = half - top := by rw [IntKind.wrap_i64]; omega
  have hm1 := (goodMs_iff.1 hg).1
  have hm2 := (goodMs_iff.1 hg).2
  have hgc0 := whB_all _ 1 hm2 c0 (by simp)
  obtain ⟨_, _, hm3⟩ := whB_cons hm2
  have AL := Lib.hid (fun c hc => whB_all _ 1 hm2 c hc)
  have hlt0 : wordsC c0 ≤ wordsM (c0 :: mr) := by rw [wordsM_cons]; omega
  have hfl : (flat obs).length ≤ 2000 := by omega
  have HS := Lib.hid (show Hid (InI (space * half) obs (newO c0) (wordOf (space * half) (flat obs).length c0) [c0] (gapsC (flat obs).length c0)) from InI.start hgc0 hs0 (by omega))
  have HL0 := Lib.hid (fun W (hh : Held W p F A) => lay_any' hh base half space top ho c0 hgc0 (by omega))
  have WF0 := Lib.hid (wordOf_fit (space * half) (flat obs).length c0 hs0 (by omega))
  obtain ⟨j0, hj0⟩ : ∃ j : Nat, hasC c0 = (j : Int) := ⟨(hasC c0).toNat, by have := hasC_nn hgc0; omega⟩
  have hj08 : j0 ≤ 8 := by have := hasC_nn hgc0; omega
  have WG0 := Lib.hid (word_gap (first := space * half) (p := (flat obs).length) hgc0 hj0)
  have GE0 := Lib.hid (gapsC_eq (p := (flat obs).length) hj0)
  have HJ0 := Lib.hid hj0
  have HM3 := Lib.hid (show whB (hasC c0) mr = true by have e : (1 : Int) + (hasC c0 - 1) = hasC c0 := by omega
                                                       rwa [e] at hm3)
  have HO := Lib.hid ho
  have HM := Lib.hid hg
  have HWM := Lib.hid hw
  have HFL := Lib.hid hA.lt
  have HTT := Lib.hid ht
  have GOALW := Lib.hid (show ∀ (A' : Ar) (X : List Ob) (e : Ending) (w' : World), Step F F w w' → Held w' p F A' → A'.objs base half space (top + (wordsM (c0 :: mr) : Nat)) = some (obs ++ X) → InI (space * half) obs X (wordOf (space * half) (flat obs).length c0) (c0 :: mr) [] → e = .returned (.tuple #[heapV base half space (top + (wordsM (c0 :: mr) : Nat)), .int .u64 (wordOf (space * half) (flat obs).length c0), .bool true]) → InT A base half space top (c0 :: mr) p F w e w' from
    fun A' X e w' h1 h2 h3 h4 h5 => ⟨h1, .inl ⟨obs, A', X, _, ho, hg, hw, h5, h2, h3, h4.done, h4.words, c0, mr, rfl, rfl⟩⟩)
  have HSM : (A.objs base half space top).isSome = true := by rw [ho]; rfl
  obtain ⟨n, hn⟩ : ∃ n, wordsM (c0 :: mr) = n := ⟨_, rfl⟩
  have HW := Lib.hid (show wordsX (c0 :: mr) = n by unfold wordsX; rw [hg, ← hn]; rfl)
  have HNN := Lib.hid hn
  rw [hn] at hw
  obtain ⟨b, o, cap', ecap, hbl, hbF, q0, q1, q2, q3⟩ := ce_cells (k := 0) (c := c0) hr rfl
  cases ecap
  simp only [Nat.zero_mul, Nat.add_zero] at q0 q1 q2 q3
  have HRAW := Lib.hid hr
  obtain ⟨W, hW⟩ : ∃ W, W = (w.alloc (.cells #[.int .i64 base, .int .i64 half, .int .i64 space, .int .i64 top] 24)).alloc (.cells #[.int .i64 0, .int .i64 0, .int .i64 0, .int .i64 0] 24) := ⟨_, rfl⟩
  have R1 := Lib.hid (show rowAt W w.heap.size 24 [.int .i64 base, .int .i64 half, .int .i64 space, .int .i64 top] by rw [hW]; exact (rowAt.made _ _ _).alloc _)
  have R2 := Lib.hid (show rowAt W (w.heap.size + 1) 24 [.int .i64 0, .int .i64 0, .int .i64 0, .int .i64 0] by rw [hW]; exact rowAt.made_at _ _ (by simp))
  have BW := Lib.hid (show Below w.heap.size w W by rw [hW]; exact bl_alloc (bl_alloc (Below.refl _ _) _) _)
  have HR := Lib.hid hr
  have HA := Lib.hid hA
  have HG := Lib.hid (fun (W' : World) (hb : Below W.heap.size W W') => good_any (hA.below (bl_call BW.out hb)) base half space top)
  rw [HSM] at HG
  clear hr hA ho hg hn HSM hm2 hm3 hgc0 hlt0 hs0 hs1 hth ht hm1 hfl hj0
  have hlenI : ((c0 :: mr).length : Int) = (mr.length : Int) + 1 := by simp
  have h0l : (0 : Int) < (mr.length : Int) + 1 := by omega
  obtain ⟨W0v, hW0v⟩ : ∃ z, wordOf (space * half) (flat obs).length c0 = z := ⟨_, rfl⟩
  rw [hW0v] at HS WF0 WG0 GOALW
  have HWV := Lib.hid hW0v
  go_enter Tryz.func10, Tryz.ntmps10
  go_wp2_with fail
  rw [← hW]
  clear hW hW0v
  refine wp_region_held_drew (S := fun w' => w'.cell? ⟨w.heap.size, 0, none⟩ = some (.int .i64 base) ∧ w'.cell? ⟨w.heap.size, 1, none⟩ = some (.int .i64 half) ∧ w'.cell? ⟨w.heap.size, 2, none⟩ = some (.int .i64 space) ∧ w'.cell? ⟨w.heap.size, 3, none⟩ = some (.int .i64 top)) (by kernel_rfl) (cells4 R1.out) (fun hH0 => ?_)
  refine wpAnyH_take (i := 0) (oi := _) (v := ?_) (by simp only [List.getElem?_toArray, List.getElem?_cons_succ, List.getElem?_cons_zero]; rfl) (by kernel_rfl) (by kernel_rfl) (by kernel_rfl) (by exact fun _ _ _ h => h) (Or.inl ⟨by rfl, ?_⟩) (by assumption) ?_
  rotate_left
  · (intro w hSw; (try dsimp only at hSw); go_simp; try with_reducible rfl)
  try simp only [Act.put, List.setIfInBounds_toArray, List.set_cons_zero, List.set_cons_succ]
  refine wpAnyH_take (i := 1) (oi := _) (v := ?_) (by simp only [List.getElem?_toArray, List.getElem?_cons_succ, List.getElem?_cons_zero]; rfl) (by kernel_rfl) (by kernel_rfl) (by kernel_rfl) (by exact fun _ _ _ h => h) (Or.inl ⟨by rfl, ?_⟩) (by assumption) ?_
  rotate_left
  · (intro w hSw; (try dsimp only at hSw); go_simp; try with_reducible rfl)
  try simp only [Act.put, List.setIfInBounds_toArray, List.set_cons_zero, List.set_cons_succ]
  refine wpAnyH_ready (rs := [2]) (by kernel_rfl) (by simp) ?_
  refine AllReadyH.cons rfl (fun K hK => ?_) AllReadyH.nil
  go_simp
  refine (HG.out _ (bl_drew (Below.refl _ _))).mono ?_
  rintro e v1 ⟨rfl, b1⟩
  have B1 := Lib.hid (bl_call (bl_drew (Below.refl W.heap.size W)) b1)
  have S1 := Lib.hid (R1.out.below B1.out R1.out.lt)
  clear b1
  go_wp2_with fail
  refine hK.out _ _ (cells4 S1.out) (fun hH1 => ?_)
  clear hK K hH0
  try simp only [Act.put, List.setIfInBounds_toArray, List.set_cons_zero, List.set_cons_succ]
  refine wpAnyH_take (i := 3) (oi := _) (v := ?_) (by simp only [List.getElem?_toArray, List.getElem?_cons_succ, List.getElem?_cons_zero]; rfl) (by kernel_rfl) (by kernel_rfl) (by kernel_rfl) (by exact fun _ _ _ h => h) (Or.inl ⟨by rfl, ?_⟩) (by assumption) ?_
  rotate_left
  · (intro w hSw; (try dsimp only at hSw); go_simp; try with_reducible rfl)
  try simp only [Act.put, List.setIfInBounds_toArray, List.set_cons_zero, List.set_cons_succ]
  refine wpAnyH_take (i := 4) (oi := _) (v := ?_) (by simp only [List.getElem?_toArray, List.getElem?_cons_succ, List.getElem?_cons_zero]; rfl) (by kernel_rfl) (by kernel_rfl) (by kernel_rfl) (by exact fun _ _ _ h => h) (Or.inl ⟨by rfl, ?_⟩) (by assumption) ?_
  rotate_left
  · (intro w hSw; (try dsimp only at hSw); go_simp; try with_reducible rfl)
  try simp only [Act.put, List.setIfInBounds_toArray, List.set_cons_zero, List.set_cons_succ]
  refine wpAnyH_take (i := 5) (oi := _) (v := ?_) (by simp only [List.getElem?_toArray, List.getElem?_cons_succ, List.getElem?_cons_zero]; rfl) (by kernel_rfl) (by kernel_rfl) (by kernel_rfl) (by exact fun _ _ _ h => h) (Or.inl ⟨by rfl, ?_⟩) (by assumption) ?_
  rotate_left
  · (intro w hSw; (try dsimp only at hSw); go_simp; try with_reducible rfl)
  try simp only [Act.put, List.setIfInBounds_toArray, List.set_cons_zero, List.set_cons_succ]
  refine wpAnyH_ready (rs := [6]) (by kernel_rfl) (by simp) ?_
  refine AllReadyH.cons rfl (fun K hK => ?_) AllReadyH.nil
  go_simp
  refine (dgood_is HM.out (HR.out.below (bl_call BW.out B1.out))).mono ?_
  rintro e v2 ⟨rfl, b2⟩
  have B2 := Lib.hid (bl_call (B1.out) b2)
  have S2 := Lib.hid (R1.out.below B2.out R1.out.lt)
  clear b2
  go_wp2_with fail
  refine hK.out _ _ (cells4 S2.out) (fun hH2 => ?_)
  clear hK K hH1
  try simp only [Act.put, List.setIfInBounds_toArray, List.set_cons_zero, List.set_cons_succ]
  refine wpAnyH_take (i := 7) (oi := _) (v := ?_) (by simp only [List.getElem?_toArray, List.getElem?_cons_succ, List.getElem?_cons_zero]; rfl) (by kernel_rfl) (by kernel_rfl) (by kernel_rfl) (by exact fun _ _ _ h => h) (Or.inl ⟨by rfl, ?_⟩) (by assumption) ?_
  rotate_left
  · (intro w hSw; (try dsimp only at hSw); go_simp; try with_reducible rfl)
  try simp only [Act.put, List.setIfInBounds_toArray, List.set_cons_zero, List.set_cons_succ]
  refine wpAnyH_take (i := 8) (oi := _) (v := ?_) (by simp only [List.getElem?_toArray, List.getElem?_cons_succ, List.getElem?_cons_zero]; rfl) (by kernel_rfl) (by kernel_rfl) (by kernel_rfl) (by exact fun _ _ _ h => h) (Or.inl ⟨by rfl, ?_⟩) (by assumption) ?_
  rotate_left
  · (intro w hSw; (try dsimp only at hSw); go_simp; try with_reducible rfl)
  try simp only [Act.put, List.setIfInBounds_toArray, List.set_cons_zero, List.set_cons_succ]
  refine wpAnyH_take (i := 9) (oi := _) (v := ?_) (by simp only [List.getElem?_toArray, List.getElem?_cons_succ, List.getElem?_cons_zero]; rfl) (by kernel_rfl) (by kernel_rfl) (by kernel_rfl) (by exact fun _ _ _ h => h) (Or.inl ⟨by rfl, ?_⟩) (by assumption) ?_
  rotate_left
  · (intro w hSw; (try dsimp only at hSw); go_simp; try with_reducible rfl)
  try simp only [Act.put, List.setIfInBounds_toArray, List.set_cons_zero, List.set_cons_succ]
  refine wpAnyH_take (i := 10) (oi := _) (v := ?_) (by simp only [List.getElem?_toArray, List.getElem?_cons_succ, List.getElem?_cons_zero]; rfl) (by kernel_rfl) (by kernel_rfl) (by kernel_rfl) (by exact fun _ _ _ h => h) (Or.inl ⟨by rfl, ?_⟩) (by assumption) ?_
  rotate_left
  · (intro w hSw; (try dsimp only at hSw); go_simp; try with_reducible rfl)
  try simp only [Act.put, List.setIfInBounds_toArray, List.set_cons_zero, List.set_cons_succ]
  refine wpAnyH_take (i := 12) (oi := _) (v := ?_) (by simp only [List.getElem?_toArray, List.getElem?_cons_succ, List.getElem?_cons_zero]; rfl) (by kernel_rfl) (by kernel_rfl) (by kernel_rfl) (by exact fun _ _ _ h => h) (Or.inl ⟨by rfl, ?_⟩) (by assumption) ?_
  rotate_left
  · (intro w hSw; (try dsimp only at hSw); go_simp; try with_reducible rfl)
  try simp only [Act.put, List.setIfInBounds_toArray, List.set_cons_zero, List.set_cons_succ]
  refine wpAnyH_take (i := 13) (oi := _) (v := ?_) (by simp only [List.getElem?_toArray, List.getElem?_cons_succ, List.getElem?_cons_zero]; rfl) (by kernel_rfl) (by kernel_rfl) (by kernel_rfl) (by exact fun _ _ _ h => h) (Or.inl ⟨by rfl, ?_⟩) (by assumption) ?_
  rotate_left
  · (intro w hSw; (try dsimp only at hSw); go_simp; try with_reducible rfl)
  try simp only [Act.put, List.setIfInBounds_toArray, List.set_cons_zero, List.set_cons_succ]
  refine wpAnyH_take (i := 14) (oi := _) (v := ?_) (by simp only [List.getElem?_toArray, List.getElem?_cons_succ, List.getElem?_cons_zero]; rfl) (by kernel_rfl) (by kernel_rfl) (by kernel_rfl) (by exact fun _ _ _ h => h) (Or.inl ⟨by rfl, ?_⟩) (by assumption) ?_
  rotate_left
  · (intro w hSw; (try dsimp only at hSw); go_simp; try with_reducible rfl)
  try simp only [Act.put, List.setIfInBounds_toArray, List.set_cons_zero, List.set_cons_succ]
  refine wpAnyH_take (i := 15) (oi := _) (v := ?_) (by simp only [List.getElem?_toArray, List.getElem?_cons_succ, List.getElem?_cons_zero]; rfl) (by kernel_rfl) (by kernel_rfl) (by kernel_rfl) (by exact fun _ _ _ h => h) (Or.inl ⟨by rfl, ?_⟩) (by assumption) ?_
  rotate_left
  · (intro w hSw; (try dsimp only at hSw); go_simp; try with_reducible rfl)
  try simp only [Act.put, List.setIfInBounds_toArray, List.set_cons_zero, List.set_cons_succ]
  refine wpAnyH_take (i := 16) (oi := _) (v := ?_) (by simp only [List.getElem?_toArray, List.getElem?_cons_succ, List.getElem?_cons_zero]; rfl) (by kernel_rfl) (by kernel_rfl) (by kernel_rfl) (by exact fun _ _ _ h => h) (Or.inl ⟨by rfl, ?_⟩) (by assumption) ?_
  rotate_left
  · (intro w hSw; (try dsimp only at hSw); go_simp; try with_reducible rfl)
  try simp only [Act.put, List.setIfInBounds_toArray, List.set_cons_zero, List.set_cons_succ]
  refine wpAnyH_ready (rs := [11]) (by kernel_rfl) (by simp) ?_
  refine AllReadyH.cons rfl (fun K hK => ?_) AllReadyH.nil
  go_simp
  refine (dwords_is HW.out (HR.out.below (bl_call BW.out B2.out))).mono ?_
  rintro e v3 ⟨rfl, b3⟩
  have B3 := Lib.hid (bl_call (B2.out) b3)
  have S3 := Lib.hid (R1.out.below B3.out R1.out.lt)
  clear b3
  go_wp2_with fail
  refine hK.out _ _ (cells4 S3.out) (fun hH3 => ?_)
  clear hK K hH2
  try simp only [Act.put, List.setIfInBounds_toArray, List.set_cons_zero, List.set_cons_succ]
  refine wpAnyH_take (i := 17) (oi := _) (v := ?_) (by simp only [List.getElem?_toArray, List.getElem?_cons_succ, List.getElem?_cons_zero]; rfl) (by kernel_rfl) (by kernel_rfl) (by kernel_rfl) (by exact fun _ _ _ h => h) (Or.inl ⟨by rfl, ?_⟩) (by assumption) ?_
  rotate_left
  · (intro w hSw; (try dsimp only at hSw); go_simp; try with_reducible rfl)
  try simp only [Act.put, List.setIfInBounds_toArray, List.set_cons_zero, List.set_cons_succ]
  refine wpAnyH_take (i := 18) (oi := _) (v := ?_) (by simp only [List.getElem?_toArray, List.getElem?_cons_succ, List.getElem?_cons_zero]; rfl) (by kernel_rfl) (by kernel_rfl) (by kernel_rfl) (by exact fun _ _ _ h => h) (Or.inl ⟨by rfl, ?_⟩) (by assumption) ?_
  rotate_left
  · (intro w hSw; (try dsimp only at hSw); go_simp; try with_reducible rfl)
  try simp only [Act.put, List.setIfInBounds_toArray, List.set_cons_zero, List.set_cons_succ]
  refine wpAnyH_done (by kernel_rfl) ?_ _
  have Q2 := Lib.hid (R2.out.below B3.out R2.out.lt)
  have BF := Lib.hid (bl_call BW.out B3.out)
  have K3 : Hid (InH base half space top w p F A v3) := ⟨Step.of_below BF.out, S3.out, Q2.out, HA.out.below BF.out, HFL.out⟩
  clear S1 S2 B1 B2
  have RD3 := Lib.hid (HRAW.out.upon K3.out.u.upon (fun _ _ h => h))
  obtain ⟨bx, ox, capx, ex, -, -, y0, y1, y2, y3⟩ := ce_cells (k := 0) (c := c0) RD3.out rfl
  cases ex
  simp only [Nat.zero_mul, Nat.add_zero] at y0 y1 y2 y3
  obtain ⟨d0, d1, d2, d3⟩ := cells4 K3.out.hp
  have g0 := K3.out.hp.free 0
  have g1 := K3.out.hp.free 1
  have g2 := K3.out.hp.free 2
  have g3 := K3.out.hp.free 3
  have hpl := K3.out.hp.lt
  go_upto_region 3 with fail
  go_cut [9] (fun v9 wx => v9 = .int .u64 W0v ∧ ∃ A4, InH base half space (top + (wordsC c0 : Nat)) w p F A4 wx ∧ A4.objs base half space (top + (wordsC c0 : Nat)) = some (obs ++ newO c0))
  case first =>
    go_wp2_with fail
    have KD := Lib.hid (K3.out.below (bl_drew (Below.refl _ _)))
    go_region_with (go_at_call 30
                    refine (HL0.out _ KD.out.held).mono ?_
                    rintro e w4 ⟨A4, rfl, hh4, hs4, ho4⟩
                    have K4 := Lib.hid (KD.out.step hs4 hh4)
                    have HO4 := Lib.hid ho4
                    have z0 := K4.out.hp.cell 0
                    have z1 := K4.out.hp.cell 1
                    have z2 := K4.out.hp.cell 2
                    have z3 := K4.out.hp.cell 3
                    simp only [List.getElem?_cons_zero, List.getElem?_cons_succ] at z0 z1 z2 z3
                    have x0 := K4.out.hp.free 0
                    have x1 := K4.out.hp.free 1
                    have x2 := K4.out.hp.free 2
                    have x3 := K4.out.hp.free 3
                    have xl := K4.out.hp.lt
                    clear hh4 hs4 ho4)
    all_goals
      go_wp2_with fail
      go_meet
      exact ⟨by rw [HWV.out], _, K4.out.heap _, HO4.out⟩
  case rest =>
    obtain ⟨rfl, A4, hk4, ho4⟩ := hcut

    have K4 := Lib.hid hk4
    have O4 := Lib.hid ho4
    clear hk4 ho4 y0 y1 y2 y3 d0 d1 d2 d3 g0 g1 g2 g3 hpl K3 RD3
    obtain ⟨WR, hWR⟩ : ∃ WR, wc.alloc (.cells Tryz.zeroCells78 78) = WR := ⟨_, rfl⟩
    have K5 : Hid (InW (space * half) base half space (top + (wordsC c0 : Nat)) w wc.heap.size p F A4 [] WR) := by
      rw [← hWR]
      exact K4.out.room _ (zs := Tryz.zeroCells78.toList) (by rfl)
    have RD5 := Lib.hid (HRAW.out.upon K5.out.u.upon (fun _ _ h => h))
    obtain ⟨bx, ox, capx, ex, -, -, y0, y1, y2, y3⟩ := ce_cells (k := 0) (c := c0) RD5.out rfl
    cases ex
    simp only [Nat.zero_mul, Nat.add_zero] at y0 y1 y2 y3
    obtain ⟨gr, hgr⟩ : ∃ gr, wc.heap.size = gr := ⟨_, rfl⟩
    rw [hgr] at K5
    have hbw : b < w.heap.size := hbl
    have hgw : w.heap.size + 1 < gr := K5.out.gl
    have G0 := Lib.hid (show WR.cell? ⟨b, o, none⟩ = some (.int .i64 c0.1) ∧ WR.cell? ⟨b, o + 1, none⟩ = some (.int .i64 c0.2.1) ∧ WR.cell? ⟨b, o + 2, none⟩ = some (.int .i64 c0.2.2.1) ∧ WR.cell? ⟨b, o + 3, none⟩ = some (.string c0.2.2.2) from ⟨y0, y1, y2, y3⟩)
    have G1 := Lib.hid (show WR.drew.cell? ⟨b, o, none⟩ = some (.int .i64 c0.1) ∧ WR.drew.cell? ⟨b, o + 1, none⟩ = some (.int .i64 c0.2.1) ∧ WR.drew.cell? ⟨b, o + 2, none⟩ = some (.int .i64 c0.2.2.1) ∧ WR.drew.cell? ⟨b, o + 3, none⟩ = some (.string c0.2.2.2) from ⟨y0, y1, y2, y3⟩)
    have KD5 := Lib.hid (K5.out.below (bl_drew (Below.refl _ _)))
    have GC5 := Lib.hid (fun (n : Nat) (xs : List Value) (hT : roomA WR.drew gr 78 2 n xs) (hn : n + j0 ≤ 100) => gaps_any hT W0v c0.1 c0.2.1 c0.2.2.1 c0.2.2.2 j0 HJ0.out hn)
    go_wp2_with fail
    go_region_held3 (fun w' => w'.cell? ⟨b, o, none⟩ = some (.int .i64 c0.1) ∧ w'.cell? ⟨b, o + 1, none⟩ = some (.int .i64 c0.2.1) ∧ w'.cell? ⟨b, o + 2, none⟩ = some (.int .i64 c0.2.2.1) ∧ w'.cell? ⟨b, o + 3, none⟩ = some (.string c0.2.2.2))
      (first | with_reducible exact G0.out | with_reducible exact G1.out | with_reducible exact G6.out)
      ((go_at_call 31
        refine (GC5.out 0 [] KD5.out.t (by omega)).mono ?_
        rintro e w6 hgt
        obtain ⟨rfl, hk6⟩ := gaps_todo (G := []) (pl := (flat obs).length) KD5.out KD5.out.t hgt WG0.out
        rw [List.append_nil] at hk6
        have K6 := Lib.hid hk6
        have G6 := Lib.hid (show w6.cell? ⟨b, o, none⟩ = some (.int .i64 c0.1) ∧ w6.cell? ⟨b, o + 1, none⟩ = some (.int .i64 c0.2.1) ∧ w6.cell? ⟨b, o + 2, none⟩ = some (.int .i64 c0.2.2.1) ∧ w6.cell? ⟨b, o + 3, none⟩ = some (.string c0.2.2.2) from by
          obtain ⟨bz, oz, capz, ez, -, -, u0, u1, u2, u3⟩ := ce_cells (k := 0) (c := c0) (HRAW.out.upon hk6.u.upon (fun _ _ h => h)) rfl
          cases ez
          simp only [Nat.zero_mul, Nat.add_zero] at u0 u1 u2 u3
          exact ⟨u0, u1, u2, u3⟩)
        clear hgt hk6))
    clear y0 y1 y2 y3
    obtain ⟨ic, hic, hc0, hc1, hc2⟩ := info_parts info_cell
    have hcap1 : mr.length + 1 ≤ cap := by simpa using hcap
    have RT := Lib.hid (rd_tail (c := c0) HRAW.out hcap1)
    have hsl : ∀ W, (Instr.slice 41 (.slice (some ⟨b, o, none⟩) (mr.length + 1) cap) (some (.int .i64 1)) none none).run Tryz.prog W = .ok (.slice (if cap = 1 then some ⟨b, o, none⟩ else (some (⟨b, o, none⟩ : Addr)).map (·.add (1 * 4))) mr.length (cap - 1)) W := fun W => by
      have h := run_slice_from_w (P := Tryz.prog) 41 51 under_cells hic (some ⟨b, o, none⟩) (n := mr.length + 1) (c := cap) (k := 1) (by omega) W
      rw [hc1] at h
      exact h
    obtain ⟨a1, ha1⟩ : ∃ a1, (if cap = 1 then some ⟨b, o, none⟩ else (some (⟨b, o, none⟩ : Addr)).map (·.add (1 * 4))) = a1 := ⟨_, rfl⟩
    rw [ha1] at RT hsl
    clear ha1
    go_wp2_with fail
    clear hsl
    go_loopw [11, 54] (fun v i wr => ∃ (k : Nat) (A' : Ar) (X : List Ob) (G : List (Nat × Nat)) (tp : Int), i = .int .i64 k ∧ v = .slice (some ⟨gr, 0, none⟩) G.length 100 ∧ k ≤ mr.length ∧ Hid (InW (space * half) base half space tp w gr p F A' G wr) ∧ Hid (A'.objs base half space tp = some (obs ++ X)) ∧ Hid (InI (space * half) obs X W0v ((c0 :: mr).take (k + 1)) G) ∧ Hid (whB (G.length : Int) (mr.drop k) = true) ∧ Hid (tp = top + (wordsM ((c0 :: mr).take (k + 1)) : Nat))) (fun _ i _ => mr.length - (intOf i).toNat)
    case atStart => exact ⟨0, A4, newO c0, _, _, rfl, rfl, Nat.zero_le _, K6, O4, Lib.hid (by have := HS.out.out; rw [GE0.out] at this; simpa using this), Lib.hid (by rw [show ((gapsOf (flat obs).length j0).length : Int) = hasC c0 by rw [HJ0.out]; simp [gapsOf]]; exact HM3.out), Lib.hid (by simp [wordsM])⟩
    case round =>
      obtain ⟨k, A', X, G, tp, rfl, rfl, hk, HK, HO', HI, HB, HTP⟩ := hrel
      by_cases hlt : k < mr.length
      · have hx := Lib.hid (List.getElem?_eq_getElem hlt)
        have hgc := AL.out _ (List.mem_cons_of_mem c0 (List.getElem_mem hlt))
        have hB := HB.out
        rw [List.drop_eq_getElem_cons hlt] at hB
        generalize mr[k] = c at *
        obtain ⟨hG0, _, hB2⟩ := whB_cons hB
        have hGl := whB_len _ _ (by omega) HB.out
        rw [List.length_drop] at hGl
        obtain ⟨q, G', rfl⟩ : ∃ q G', G = q :: G' := by
          cases G with
          | nil => exact absurd rfl hG0
          | cons q G' => exact ⟨q, G', rfl⟩
        have hm1 := (goodMs_iff.1 HM.out).1
        rw [List.length_cons] at hm1 hGl
        obtain ⟨j, hj⟩ : ∃ j : Nat, hasC c = (j : Int) := ⟨(hasC c).toNat, by have := hasC_nn hgc; omega⟩
        have hB3 : whB ((j + G'.length : Nat) : Int) (mr.drop (k + 1)) = true := by
          rw [hj, List.length_cons] at hB2
          have e : ((G'.length + 1 : Nat) : Int) + ((j : Int) - 1) = ((j + G'.length : Nat) : Int) := by omega
          rwa [e] at hB2
        have hGj := whB_len _ _ (by omega) hB3
        rw [List.length_drop] at hGj
        have HB3 := Lib.hid hB3
        have hmr : mr.length ≤ 99 := by omega
        have hG99 : G'.length + 1 ≤ 100 := by omega
        have hE : wordsM ((c0 :: mr).take (k + 1 + 1)) = wordsM ((c0 :: mr).take (k + 1)) + wordsC c := wordsM_take (by simpa using hx.out)
        have hE2 : wordsM ((c0 :: mr).take (k + 1 + 1)) ≤ wordsM (c0 :: mr) := by
          have := wordsM_app ((c0 :: mr).take (k + 1 + 1)) ((c0 :: mr).drop (k + 1 + 1))
          rw [List.take_append_drop] at this
          omega
        have hroom : (wordsC c : Int) ≤ half - tp := by have := HTP.out; have := HWM.out; omega
        obtain ⟨e1, e2, e3, e4, e5⟩ := objs_top HK.out.held.ok HO'.out
        have HL := Lib.hid (fun W (hh : Held W p F A') => lay_any' hh base half space tp HO'.out c hgc hroom)
        have WF := Lib.hid (wordOf_fit (space * half) (flat (obs ++ X)).length c e2 (by omega))
        obtain ⟨X', hX1, hX2⟩ := InI.step HI.out hgc e2 (by omega)
        have SL := Lib.hid (fun (A2 : Ar) (ok : A2.Ok) (h : A2.objs base half space (tp + (wordsC c : Nat)) = some (obs ++ (X ++ newO c))) => set_laid ok h HI.out hgc (by omega))
        rw [hX1] at SL
        have WG := Lib.hid (word_gap (first := space * half) (p := (flat (obs ++ X)).length) hgc hj)
        rw [gapsC_eq hj] at hX2
        have HX2 := Lib.hid hX2
        have HJ := Lib.hid hj
        have TP2 := Lib.hid (show tp + (wordsC c : Nat) = top + (wordsM ((c0 :: mr).take (k + 1 + 1)) : Nat) by rw [hE, HTP.out]; push_cast; omega)
        have TK := Lib.hid (show (c0 :: mr).take (k + 1 + 1) = (c0 :: mr).take (k + 1) ++ [c] by
          have hl : k + 1 < (c0 :: mr).length := by simp; omega
          rw [List.take_succ_eq_append_getElem hl]
          have e := hx.out
          congr 2
          have e2 : (c0 :: mr)[k + 1]? = some c := by simpa using e
          rw [List.getElem?_eq_getElem hl] at e2
          exact Option.some.inj e2)
        obtain ⟨pl, hpl⟩ : ∃ pl, (flat (obs ++ X)).length = pl := ⟨_, rfl⟩
        rw [hpl] at SL WF WG HX2 e1
        obtain ⟨u, hu⟩ : ∃ u, wordOf (space * half) pl c = u := ⟨_, rfl⟩
        rw [hu] at SL WF WG
        have HUW := Lib.hid (show wordOf (space * half) (flat (obs ++ X)).length c = u by rw [hpl, hu])
        obtain ⟨tq, htq⟩ : ∃ tq, tp + ((wordsC c : Nat) : Int) = tq := ⟨_, rfl⟩
        rw [htq] at SL TP2
        have HTQ := Lib.hid htq
        have hq1 : (q.1 : Int) ≤ 2000 := by
          obtain ⟨_, o', ho', _⟩ := HI.out.gap q (by simp)
          have := objAt_lt ho'
          omega
        have hq2 : (q.2 : Int) ≤ 400 := by
          obtain ⟨_, o', ho', hk1, hq⟩ := HI.out.gap q (by simp)
          have hm := ((objs_ok HK.out.held.ok HO'.out).1 o' (objAt_mem _ _ _ ho')).1
          have := mayH_bounds (Ob.may_split hm).2
          have e : o'.size = o'.fs.length := by simp [Ob.size, sizeH, hk1]
          omega
        have WQ := Lib.hid (show fitW (wPlace (space * half + (q.1 : Int))) by
          rw [(place_two (x := space * half + (q.1 : Int)) (by omega) (by omega)).1]; constructor <;> omega)
        have BQ := Lib.hid (And.intro (show -9223372036854775808 ≤ (q.2 : Int) by omega) (show (q.2 : Int) ≤ 9223372036854775807 by omega))
        obtain ⟨gw, hgw2⟩ : ∃ gw, wPlace (space * half + (q.1 : Int)) = gw := ⟨_, rfl⟩
        have GWQ := Lib.hid hgw2
        rw [hgw2] at SL WQ
        obtain ⟨b1, o1, cap1, ea, -, -, y0, y1, y2, y3⟩ := ce_cells (RT.out.upon HK.out.u.upon (fun _ _ h => h)) hx.out
        cases ea
        have hkI : (k : Int) < (mr.length : Int) := by omega
        have hj100 : G'.length + j ≤ 100 := by omega
        clear hGl hGj hm1 hB hB2 hB3 hG0 hgc hj hE hE2 hroom e1 e2 e3 e4 e5 hX1 hX2 hpl hu htq hq1 hq2 hgw2 HI HB
        obtain ⟨W1, hW1⟩ : ∃ W1, wr.alloc (.cells #[.int .i64 c.1, .int .i64 c.2.1, .int .i64 c.2.2.1, .string c.2.2.2] 51) = W1 := ⟨_, rfl⟩
        have b1w : Below wr.heap.size wr W1 := by rw [← hW1]; exact bl_alloc (Below.refl _ _) _
        have K1 := Lib.hid (HK.out.below b1w)
        have RC1 := Lib.hid (show rowAt W1 wr.heap.size 51 (ceC c) by rw [← hW1]; exact rowAt.made _ _ _)
        have hsw : w.heap.size + 1 < wr.heap.size := by have := HK.out.gl; have := HK.out.t.lt; omega
        have hgr2 : gr < wr.heap.size := HK.out.t.lt
        obtain ⟨v0, v1, v2, v3⟩ := cells4 RC1.out
        obtain ⟨z0, z1, z2, z3⟩ := cells4 K1.out.hp
        have vl := RC1.out.lt
        clear b1w
        go_wp2_with fail
        clear hW1
        refine (HL.out _ K1.out.held).mono ?_
        rintro e w2 ⟨A2, rfl, hh2', hs2, ho2⟩
        rw [HTQ.out, HUW.out]
        rw [HTQ.out, List.append_assoc] at ho2
        have K2 := Lib.hid (K1.out.step hs2 hh2')
        have RC2 := Lib.hid (RC1.out.upon hs2.upon (fun hf => by have := HFL.out _ hf; omega))
        obtain ⟨zz, hz1, hz2⟩ := SL.out A2 hh2'.ok ho2
        have SZ1 := Lib.hid hz1
        have SZ2 := Lib.hid hz2
        clear hs2 hh2' ho2 hz1 hz2 y0 y1 y2 y3 v0 v1 v2 v3 z0 z1 z2 z3
        obtain ⟨z0, z1, z2, z3⟩ := cells4 K2.out.hp
        have x0 := K2.out.hp.free 0
        have x1 := K2.out.hp.free 1
        have x2 := K2.out.hp.free 2
        have x3 := K2.out.hp.free 3
        have xl := K2.out.hp.lt
        obtain ⟨W3, hW3⟩ : ∃ W3, (((w2.setCell ⟨w.heap.size, 0, none⟩ (.int .i64 base)).setCell ⟨w.heap.size, 1, none⟩ (.int .i64 half)).setCell ⟨w.heap.size, 2, none⟩ (.int .i64 space)).setCell ⟨w.heap.size, 3, none⟩ (.int .i64 tq) = W3 := ⟨_, rfl⟩
        have K3 := Lib.hid (K2.out.heap tq)
        rw [hW3] at K3
        have RC3 := Lib.hid (show rowAt W3 wr.heap.size 51 (ceC c) by rw [← hW3]; exact RC2.out.upon (S := fun k => k = w.heap.size) (upon_set4 (S := fun k => k = w.heap.size) rfl) (by omega))
        obtain ⟨P1, P2, P3⟩ := K3.out.pop
        rw [GWQ.out] at P2
        have GL := Lib.hid (show ((q :: G').length : Int) = (G'.length : Int) + 1 by simp)
        have KD3 := Lib.hid (K3.out.below (bl_drew (Below.refl _ _)))
        have G0 := Lib.hid (And.intro (cells4 K3.out.hp) (And.intro P2 P3))
        have G1 := Lib.hid (And.intro (cells4 KD3.out.hp) (And.intro (show W3.drew.cell? ⟨gr, G'.length * 2, none⟩ = some (.int .u64 gw) from P2) (show W3.drew.cell? ⟨gr, G'.length * 2 + 1, none⟩ = some (.int .i64 q.2) from P3)))
        have SETC := Lib.hid (set_any' KD3.out.held base half space tq gw q.2 u WQ.out WF.out BQ.out.1 BQ.out.2)
        have hl1 : (((q :: G').length : Nat) : Int) = (G'.length : Int) + 1 := GL.out
        have hl2 : (G'.length : Int) < (G'.length : Int) + 1 := by omega
        have hl3 : (0 : Int) ≤ (G'.length : Int) := by omega
        have PP1 := Lib.hid P1
        clear P1 P2 P3
        go_wp2_with fail
        clear hW3 z0 z1 z2 z3 x0 x1 x2 x3 xl
        go_region_held3 (fun w' => (w'.cell? ⟨w.heap.size, 0, none⟩ = some (.int .i64 base) ∧ w'.cell? ⟨w.heap.size, 1, none⟩ = some (.int .i64 half) ∧ w'.cell? ⟨w.heap.size, 2, none⟩ = some (.int .i64 space) ∧ w'.cell? ⟨w.heap.size, 3, none⟩ = some (.int .i64 tq)) ∧ w'.cell? ⟨gr, G'.length * 2, none⟩ = some (.int .u64 gw) ∧ w'.cell? ⟨gr, G'.length * 2 + 1, none⟩ = some (.int .i64 q.2))
          (first | with_reducible exact G0.out | with_reducible exact G1.out | with_reducible exact G4.out)
          ((go_at_call 32
            refine SETC.out.mono ?_
            rintro e w4 ⟨hs4, hset⟩
            obtain ⟨rfl, hh4⟩ : e = .returned (.bool true) ∧ Held w4 p F (A2.set base zz u) := by
              rcases hset with ⟨z', h1, h2, h3⟩ | ⟨h1, _⟩
              · rw [SZ1.out] at h1; cases h1; exact ⟨h2, h3⟩
              · rw [SZ1.out] at h1; cases h1
            have K4 := Lib.hid (KD3.out.step hs4 hh4)
            have RC4 := Lib.hid (RC3.out.drew.upon hs4.upon (fun hf => by have := HFL.out _ hf; omega))
            obtain ⟨P1, P2, P3⟩ := K4.out.pop
            rw [GWQ.out] at P2
            have PT4 := Lib.hid P1
            have G4 := Lib.hid (And.intro (cells4 K4.out.hp) (And.intro P2 P3))
            clear hs4 hset hh4 P1 P2 P3))
        have H0 := Lib.hid (cells4 RC4.out)
        have H1 := Lib.hid (cells4 RC4.out.drew)
        have KD4 := Lib.hid (K4.out.below (bl_drew (Below.refl _ _)))
        have GC4 := Lib.hid (gaps_any (PT4.out.below (bl_drew (Below.refl _ _))) u c.1 c.2.1 c.2.2.1 c.2.2.2 j HJ.out hj100)
        obtain ⟨igp, higp, hgp0, hgp1, hgp2⟩ := info_parts info_gap
        have hs2 : ∀ W, (Instr.slice 79 (.slice (some ⟨gr, 0, none⟩) (G'.length + 1) 100) none (some (.int .i64 (G'.length : Int))) none).run Tryz.prog W = .ok (.slice (some ⟨gr, 0, none⟩) G'.length 100) W := fun W => run_slice_to_w _ _ under_gaps higp _ (by omega) (by omega) W
        go_wp2_with fail
        go_region_held3 (fun w' => w'.cell? ⟨wr.heap.size, 0, none⟩ = some (.int .i64 c.1) ∧ w'.cell? ⟨wr.heap.size, 1, none⟩ = some (.int .i64 c.2.1) ∧ w'.cell? ⟨wr.heap.size, 2, none⟩ = some (.int .i64 c.2.2.1) ∧ w'.cell? ⟨wr.heap.size, 3, none⟩ = some (.string c.2.2.2))
          (first | with_reducible exact H0.out | with_reducible exact H1.out | with_reducible exact H5.out)
          ((go_at_call 31
            refine GC4.out.mono ?_
            rintro e w5 hgt
            have r5 := RC4.out.drew.upon (S := fun k => k = gr) hgt.2.2 (by omega)
            have H5 := Lib.hid (cells4 r5)
            obtain ⟨rfl, hk5⟩ := gaps_todo (pl := pl) KD4.out (PT4.out.below (bl_drew (Below.refl _ _))) hgt WG.out
            have K5' := Lib.hid hk5
            clear hgt r5 hk5))
        go_wp2_with fail
        go_roundw
        case rel => exact ⟨k + 1, _, X', gapsOf pl j ++ G', tq, by go_num, by rw [List.length_append], by omega, K5', SZ2, Lib.hid (by rw [TK.out]; exact HX2.out), Lib.hid (by rw [show (gapsOf pl j ++ G').length = j + G'.length by simp [gapsOf]]; exact HB3.out), TP2⟩
        case measure => simp [intOf]; omega
      · obtain rfl : k = mr.length := by omega
        have hG : G = [] := by have := HB.out; rw [List.drop_length] at this; have h0 : (G.length : Int) = 0 := by simpa [whB] using this
                               exact List.length_eq_zero_iff.1 (by omega)
        subst hG
        have hI := HI.out
        have hT := HTP.out
        rw [List.take_of_length_le (by simp)] at hI hT
        subst hT
        have z0 := HK.out.hp.cell 0
        have z1 := HK.out.hp.cell 1
        have z2 := HK.out.hp.cell 2
        have z3 := HK.out.hp.cell 3
        have x0 := HK.out.rs.cell 0
        have x1 := HK.out.rs.cell 1
        have x2 := HK.out.rs.cell 2
        have x3 := HK.out.rs.cell 3
        simp only [List.getElem?_cons_zero, List.getElem?_cons_succ] at z0 z1 z2 z3 x0 x1 x2 x3
        have f0 := HK.out.rs.free 0
        have f1 := HK.out.rs.free 1
        have f2 := HK.out.rs.free 2
        have f3 := HK.out.rs.free 3
        have xl := HK.out.rs.lt
        have HI2 := Lib.hid hI
        clear hI
        go_wp2_with fail
        have hu : Upon (fun q => q = w.heap.size + 1) wr ((((wr.setCell ⟨w.heap.size + 1, 0, none⟩ (.int .i64 base)).setCell ⟨w.heap.size + 1, 1, none⟩ (.int .i64 half)).setCell ⟨w.heap.size + 1, 2, none⟩ (.int .i64 space)).setCell ⟨w.heap.size + 1, 3, none⟩ (.int .i64 (top + (wordsM (c0 :: mr) : Nat)))) := upon_set4 (S := fun q => q = w.heap.size + 1) rfl
        refine bodyPost_ret (v := .tuple #[heapV base half space (top + (wordsM (c0 :: mr) : Nat)), .int .u64 W0v, .bool true]) ?_ rfl (GOALW.out A' X _ _ (step_new HK.out.u hu (fun q e => by omega)) (HK.out.held.upon hu (fun q hq e => by have := HK.out.fl q hq; omega)) HO'.out HI2.out rfl)
        simp [results, Tryz.results10, go_sem, x0, x1, x2, x3, xl]
end Go.Proofs.YtnjpjhlodamanaaGreatDoor
