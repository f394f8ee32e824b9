/-
  The contract of the statements' own copy of a program (OwnProgram).
  Conditions: as each states.
-/
import Derived.Test.YtlfbfnkmbceejaaDoorCoOw
import Derived.Test.YtlfbfnkmbceejaaDoorCoLg
import Derived.Outline
import Derived.IntWalk
import Derived.RegionTactic
namespace Go.Proofs.YtlfbfnkmbceejaaDoor
open Go.ChangeShapes Go.WideShapes Go.ChangeAt Go.RowKit
set_option linter.unusedVariables false
set_option linter.unusedSimpArgs false
set_option maxRecDepth 100000

theorem ow_ins : (Tryd.prog.info? 49).map (fun i => (i.zero, i.size, i.bytes)) = some (some (.agg #[.int .i64 0, .int .i64 0, .int .i64 0]), 3, 24) := by kernel_rfl
theorem ow_int : (Tryd.prog.info? 3).map (fun i => (i.zero, i.size, i.bytes)) = some (some (.int .i64 0), 1, 8) := by kernel_rfl
theorem ow_str : (Tryd.prog.info? 9).map (fun i => (i.zero, i.size, i.bytes)) = some (some (.string ⟨#[]⟩), 1, 16) := by kernel_rfl
theorem rd_src {S : Nat → Prop} {w : World} {a : Option Addr} {n c : Nat} {cs : List Value} (h : rdAt S w (.slice a n c) n cs) : n = 0 ∨ ∃ ad, a = some ad ∧ ∀ j u, cs[j]? = some u → w.cell? (ad.add j) = some u := by
  obtain ⟨a', c', e, h⟩ := h
  cases e
  rcases h with h | ⟨b, o, rfl, -, -, hc⟩
  · exact .inl h
  · exact .inr ⟨_, rfl, fun j u hj => by rw [Addr.add_lit]; exact hc j u hj⟩
theorem row_srcO {w : World} {b : Nat} {T : TypeId} {xs : List Value} (h : rowAt w b T xs) (m : Nat) : m = 0 ∨ ∃ ad, (some (⟨b, 0, none⟩ : Addr)) = some ad ∧ ∀ j u, xs[j]? = some u → w.cell? (ad.add j) = some u := by
  refine .inr ⟨_, rfl, fun j u hj => ?_⟩
  rw [Addr.add_lit, h.cell, Nat.zero_add]
  exact hj
theorem own_e {w : World} {T : TypeId} {s : Nat} : (w.alloc (.cells #[] T)).ownsRow w.heap.size T s (.slice (some ⟨w.heap.size, 0, none⟩) 0 0) 0 [] :=
  owns_mk (rest := []) (rowAt.made w T []) (Nat.le_refl _) (by simp) (by simp) (Nat.le_refl _) (Nat.zero_le _)
theorem ins_one (l : List PIns) : ∀ u ∈ insL l, u.oneCell' = true := by
  intro u hu
  obtain ⟨p, _, hs⟩ := List.mem_flatMap.1 hu
  simp only [insC, List.mem_cons, List.not_mem_nil, or_false] at hs
  rcases hs with rfl | rfl | rfl <;> rfl
theorem int_one (l : List Int) : ∀ u ∈ intL l, u.oneCell' = true := by
  intro u hu; obtain ⟨z, _, rfl⟩ := List.mem_map.1 hu; rfl
theorem str_one (l : List ByteArray) : ∀ u ∈ strL l, u.oneCell' = true := by
  intro u hu; obtain ⟨z, _, rfl⟩ := List.mem_map.1 hu; rfl
theorem OwS.zlt {B b p2 q : Nat} {n0 w : World} {r1 r2 : List Value} {u1 u2 u3 : Value} {fs : List (PFn × Value)} {Q : List ByteArray} {ms : List (PFm × Value)} (h : OwS B n0 b p2 q r1 r2 u1 u2 u3 fs Q ms w) {g : Nat} (hg : OwZ B b p2 q u1 u2 u3 g) : g < w.heap.size := by
  have := h.lt; have := h.rp.lt; have := h.r2.lt; have := h.rq.lt
  rcases hg with e | e | e | e | e | e | e
  · omega
  · omega
  · omega
  · omega
  · exact own_lt h.o1 e
  · exact own_lt h.o2 e
  · exact own_lt h.o3 e
theorem OwS.res {B b p2 q : Nat} {n0 w : World} {r1 : List Value} {u1 u2 u3 : Value} {fs : List (PFn × Value)} {Q : List ByteArray} {ms : List (PFm × Value)} {x y z : Value} (h : OwS B n0 b p2 q r1 [x, y, z] u1 u2 u3 fs Q ms w) :
    OwS B n0 b p2 q r1 [u1, u2, u3] u1 u2 u3 fs Q ms (((w.setCell ⟨p2, 0, none⟩ u1).setCell ⟨p2, 1, none⟩ u2).setCell ⟨p2, 2, none⟩ u3) := by
  have h1 := Upon.setCell (S := fun g => g = p2) (w := w) ⟨p2, 0, none⟩ u1 rfl
  have h2 := Upon.setCell (S := fun g => g = p2) (w := w.setCell ⟨p2, 0, none⟩ u1) ⟨p2, 1, none⟩ u2 rfl
  have h3 := Upon.setCell (S := fun g => g = p2) (w := (w.setCell ⟨p2, 0, none⟩ u1).setCell ⟨p2, 1, none⟩ u2) ⟨p2, 2, none⟩ u3 rfl
  have hu := (h1.trans h2 fun _ _ e => e).trans h3 fun _ _ e => e
  exact { h with
    rp := h.rp.upon hu h.nb.1
    r2 := ((h.r2.set 0 u1).set 1 u2).set 2 u3
    rq := h.rq.upon hu fun e => h.nb.2.2 e.symm
    o1 := owns_upon h.o1 hu fun g hg e => (h.d g (.inl hg)).2.1 e
    o2 := owns_upon h.o2 hu fun g hg e => (h.d g (.inr (.inl hg))).2.1 e
    o3 := owns_upon h.o3 hu fun g hg e => (h.d g (.inr (.inr hg))).2.1 e
    i1 := fun y hy => (h.i1 y hy).upon hu fun k _ e => .inr (.inr (.inl e))
    i3 := fun y hy => (h.i3 y hy).upon hu fun k _ e => .inr (.inr (.inl e))
    be := h.be.trans (hu.belowB h.lt fun g e => by rw [e]; exact h.b2) }
theorem ow_mid {wr W5 W6 w7 : World} {r : List Value} {T : TypeId} {nv : Value} {o : Nat} (b6 : Below wr.heap.size wr W6) (r6 : rowAt W6 wr.heap.size T r) (hlt : wr.heap.size < W5.heap.size) (hg : W6.grownBy w7 (Value.slice (some ⟨W5.heap.size, 0, none⟩) 0 0).ownBlock) :
    rowAt w7 wr.heap.size T r ∧ rowAt (w7.setCell ⟨wr.heap.size, o, none⟩ nv) wr.heap.size T (r.set o nv) ∧ Below wr.heap.size wr (w7.setCell ⟨wr.heap.size, o, none⟩ nv) := by
  have hu : Upon (fun g => g = W5.heap.size) W6 w7 := ⟨hg.os, hg.tape, hg.output, hg.size, fun k hk h => hg.block k hk fun e => h (Option.some.inj e)⟩
  have r7 := r6.upon hu (by omega)
  refine ⟨r7, r7.set o nv, (b6.trans (hu.belowB b6.size fun g e => by omega)).setCell (p := ⟨wr.heap.size, o, none⟩) (Nat.le_refl _) _⟩
theorem ow_new {Z : Nat → Prop} {wr W5 w7 : World} {T : TypeId} {nv : Value} {o n sz : Nat} {cs : List Value} {X : Obj} (hZ : ∀ g, Z g → g < wr.heap.size) (hlt : wr.heap.size < W5.heap.size) (ho : w7.ownsRow W5.heap.size T sz nv n cs) :
    rdAt Z ((w7.setCell ⟨wr.heap.size, o, none⟩ nv).alloc X) nv n cs := by
  have h1 := rdAt.of_owns (S := fun g => Z g ∨ g = wr.heap.size) ho fun g hg e => by
    have := own_ge ho g hg
    rcases e with e | e
    · have := hZ g e; omega
    · omega
  have h2 := h1.upon (Upon.setCell (S := fun g => g = wr.heap.size) (w := w7) ⟨wr.heap.size, o, none⟩ nv rfl) fun k _ e => .inr e
  exact (h2.off fun k _ e => .inl e).below (down_alloc (Below.refl _ _) _)
def OwnPost (P : PPr) (w : World) (e : Ending) (w' : World) : Prop :=
  ∃ (u1 u2 u3 : Value) (fs : List (PFn × Value)) (ms : List (PFm × Value)) (b p2 q : Nat) (r1 r2 : List Value), e = .returned (.agg #[u1, u2, u3]) ∧ fs.map (·.1) = P.1 ∧ ms.map (·.1) = P.2.2 ∧ OwS w.heap.size w b p2 q r1 r2 u1 u2 u3 fs P.2.1 ms w'
theorem fm_cells {S : Nat → Prop} {w : World} {a : Option Addr} {c : Nat} {l : List PFm} (h : fmsAt S w (.slice a l.length c) l) {i : Nat} {f : PFm} (hi : l[i]? = some f) :
    ∃ b o cv, a = some ⟨b, o, none⟩ ∧ b < w.heap.size ∧ w.cell? ⟨b, o + i * 4, none⟩ = some (.int .i64 f.1) ∧ w.cell? ⟨b, o + i * 4 + 1, none⟩ = some (.int .i64 f.2.1) ∧ w.cell? ⟨b, o + i * 4 + 2, none⟩ = some (.int .i64 f.2.2.1) ∧ w.cell? ⟨b, o + i * 4 + 3, none⟩ = some cv ∧ rdAt S w cv f.2.2.2.length (intL f.2.2.2) := by
  obtain ⟨a', c', e, h⟩ := h
  cases e
  rcases h with h0 | ⟨b, o, rfl, -, hb, hc⟩
  · have := (List.getElem?_eq_some_iff.1 hi).1; omega
  · obtain ⟨e0, e1, e2, cv, e3, hr⟩ := hc i f hi
    exact ⟨b, o, cv, rfl, hb, e0, e1, e2, e3, hr⟩
theorem fn_cells2 {S : Nat → Prop} {w : World} {a : Option Addr} {c : Nat} {l : List PFn} (h : fnsAt S w (.slice a l.length c) l) {i : Nat} {f : PFn} (hi : l[i]? = some f) :
    ∃ b o cv, a = some ⟨b, o, none⟩ ∧ b < w.heap.size ∧ w.cell? ⟨b, o + i * 3, none⟩ = some (.int .i64 f.1) ∧ w.cell? ⟨b, o + i * 3 + 1, none⟩ = some (.int .i64 f.2.1) ∧ w.cell? ⟨b, o + i * 3 + 2, none⟩ = some cv ∧ rdAt S w cv f.2.2.length (insL f.2.2) := by
  obtain ⟨a', c', e, h⟩ := h
  cases e
  rcases h with h0 | ⟨b, o, rfl, -, hb, hc⟩
  · have := (List.getElem?_eq_some_iff.1 hi).1; omega
  · obtain ⟨e0, e1, cv, e2, hr⟩ := hc i f hi
    exact ⟨b, o, cv, rfl, hb, e0, e1, e2, hr⟩
theorem take_nextO {α : Type} {l : List α} {k : Nat} {x : α} (h : l[k]? = some x) : l.take (k + 1) = l.take k ++ [x] := by
  have hlt := (List.getElem?_eq_some_iff.1 h).1
  rw [List.take_succ_eq_append_getElem hlt, (List.getElem?_eq_some_iff.1 h).2]

set_option maxHeartbeats 16000000 in
theorem ownProgram_any {S : Nat → Prop} {w : World} {v1 v2 v3 : Value} {P : PPr} (hp : prAt S w v1 v2 v3 P) (hF : prF P) (sm : PSm P) :
    Calls Tryd.prog 9 #[.agg #[v1, v2, v3]] w (OwnPost P w) := by
  have HP := Lib.hid hp
  have SM := Lib.hid sm
  have n1 := sm.n1; have n2 := sm.n2; have n3 := sm.n3
  obtain ⟨a1, c1, rfl, -⟩ := hp.1
  obtain ⟨a2, c2, rfl, -⟩ := hp.2.1
  obtain ⟨a3, c3, rfl, -⟩ := hp.2.2
  obtain ⟨j0, ji, jz0, jz1, jz2⟩ := info_parts ow_str
  obtain ⟨i0, hi, hz0, hz1, hz2⟩ := info_parts ow_ins
  obtain ⟨k0, ki, kz0, kz1, kz2⟩ := info_parts ow_int
  obtain ⟨l0, li, lz0, lz1, lz2⟩ := info_parts info_fn
  obtain ⟨m0, mi, mz0, mz1, mz2⟩ := info_parts info_fm
  obtain ⟨W1, hW1⟩ : ∃ W, ((w.alloc (.cells #[.slice a1 P.1.length c1, .slice a2 P.2.1.length c2, .slice a3 P.2.2.length c3] 26)).alloc (.cells #[.slice none 0 0, .slice none 0 0, .slice none 0 0] 26)).alloc (.cells #[] 9) = W := ⟨_, rfl⟩
  have b1 : Below w.heap.size w W1 := by rw [← hW1]; exact down_alloc (down_alloc (down_alloc (Below.refl _ _) _) _) _
  have rp : rowAt W1 w.heap.size 26 [.slice a1 P.1.length c1, .slice a2 P.2.1.length c2, .slice a3 P.2.2.length c3] := by rw [← hW1]; exact ((rowAt.made w _ _).alloc _).alloc _
  have rz : rowAt W1 (w.heap.size + 1) 26 [.slice none 0 0, .slice none 0 0, .slice none 0 0] := by rw [← hW1]; exact (rowAt.made_at _ _ (by simp)).alloc _
  have hsz : W1.heap.size = w.heap.size + 3 := by rw [← hW1]; simp
  have ow1 : W1.ownsRow (w.heap.size + 2) 9 1 (.slice (some ⟨w.heap.size + 2, 0, none⟩) 0 0) 0 [] := by
    have := own_e (w := (w.alloc (.cells #[.slice a1 P.1.length c1, .slice a2 P.2.1.length c2, .slice a3 P.2.2.length c3] 26)).alloc (.cells #[.slice none 0 0, .slice none 0 0, .slice none 0 0] 26)) (T := 9) (s := 1)
    rw [hW1] at this
    simpa using this
  have x0 : W1.cell? ⟨w.heap.size, 0, none⟩ = some (.slice a1 P.1.length c1) := (rp.cell 0).trans rfl
  have x1 : W1.cell? ⟨w.heap.size, 1, none⟩ = some (.slice a2 P.2.1.length c2) := (rp.cell 1).trans rfl
  have x2 : W1.cell? ⟨w.heap.size, 2, none⟩ = some (.slice a3 P.2.2.length c3) := (rp.cell 2).trans rfl
  have B1 := Lib.hid b1
  have RP := Lib.hid rp
  have RZ := Lib.hid rz
  have OW1 := Lib.hid ow1
  have S1 := Lib.hid (rd_src (hp.2.1.below b1))
  have HSZ := Lib.hid hsz
  clear hp hF sm b1 rp rz ow1 hsz
  go_enter Tryd.func9, Tryd.ntmps9
  go_wp2_with (at_builtin; refine wpList_append_w (by rfl) _ _ _ (by rfl) (w.heap.size + 2) 9 j0 (.string ⟨#[]⟩) 1 16 under_strs ji jz0 jz1 jz2 (by rfl) (by decide) (.slice (some ⟨w.heap.size + 2, 0, none⟩) 0 0) 0 [] (by rfl) OW1.out a2 P.2.1.length c2 (strL P.2.1) (by rfl) (by simp) S1.out (str_one _) (by unfold maxLen; omega) (by omega) (by have := HSZ.out; omega) ?_; intro u2 w2 hown2 hgrow2 hb2; simp only [Nat.zero_add, List.nil_append] at hown2; obtain ⟨s2, d2, rfl⟩ := owns_slice hown2; have HOW2 := Lib.hid hown2; have HGR2 := Lib.hid hgrow2; have HB2 := Lib.hid hb2; clear hown2 hgrow2 hb2)
  clear hW1 x0 x1 x2
  go_wp2_with fail
  obtain ⟨Wq, hWq⟩ : ∃ W, w2.alloc (.cells #[.slice none 0 0, .slice s2 P.2.1.length d2, .slice none 0 0] 26) = W := ⟨_, rfl⟩
  have S0 : OwS w.heap.size w w.heap.size (w.heap.size + 1) w2.heap.size [.slice a1 P.1.length c1, .slice a2 P.2.1.length c2, .slice a3 P.2.2.length c3] [.slice none 0 0, .slice none 0 0, .slice none 0 0] (.slice none 0 0) (.slice s2 P.2.1.length d2) (.slice none 0 0) [] P.2.1 [] Wq := by
    have hsz := HSZ.out
    have hg := HGR2.out
    have hu : Upon (fun g => g = w.heap.size + 2) W1 w2 := ⟨hg.os, hg.tape, hg.output, hg.size, fun k hk h => hg.block k hk fun e => h (Option.some.inj e)⟩
    have hs := hu.size
    have bq : Below w2.heap.size w2 Wq := by rw [← hWq]; exact down_alloc (Below.refl _ _) _
    have how : w2.ownsRow w.heap.size 9 1 (.slice s2 P.2.1.length d2) P.2.1.length (strL P.2.1) := ⟨HOW2.out.1, HOW2.out.2.imp_right fun ⟨g, cap, cur, e, hB, rest⟩ => ⟨g, cap, cur, e, by omega, rest⟩⟩
    exact {
      rp := (RP.out.upon hu (by omega)).below bq (by omega)
      r2 := (RZ.out.upon hu (by omega)).below bq (by omega)
      rq := by rw [← hWq]; exact rowAt.made _ _ _
      o1 := World.ownsRow_nil _ _ _ 3
      o2 := owns_upon how (upon_of_below bq) fun _ _ t => t
      o3 := World.ownsRow_nil _ _ _ 4
      i1 := fun y hy => by cases hy
      i3 := fun y hy => by cases hy
      d := fun g e => by
        rcases e with e | e | e
        · cases e
        · have := own_ge HOW2.out g e; omega
        · cases e
      d12 := fun g e => by cases e
      d13 := fun g e => by cases e
      d23 := fun g _ e => by cases e
      nb := by omega
      bb := Nat.le_refl _
      b2 := by omega
      bq := by omega
      be := (B1.out.trans (hu.belowB (by omega) fun g e => by omega)).trans (bq.mono (by omega)) }
  have HS0 := Lib.hid S0
  rw [hWq]
  clear hWq S0 HOW2 HGR2 HB2
  obtain ⟨q, hq⟩ : ∃ q, w2.heap.size = q := ⟨_, rfl⟩
  rw [hq] at HS0
  rw [hq]
  clear hq
  go_loopw [4] (fun i wr => ∃ (k : Nat) (u1 : Value) (fs : List (PFn × Value)), k ≤ P.1.length ∧ i = .int .i64 k ∧ Hid (fs.map (·.1) = P.1.take k) ∧ Hid (OwS w.heap.size w w.heap.size (w.heap.size + 1) q [.slice a1 P.1.length c1, .slice a2 P.2.1.length c2, .slice a3 P.2.2.length c3] [.slice none 0 0, .slice none 0 0, .slice none 0 0] u1 (.slice s2 P.2.1.length d2) (.slice none 0 0) fs P.2.1 [] wr)) (fun i _ => P.1.length - (intOf i).toNat)
  case atStart => exact ⟨0, _, [], Nat.zero_le _, rfl, Lib.hid (by simp), HS0⟩
  case round =>
    obtain ⟨k, u1, fs, hk, rfl, HFS, HO⟩ := hrel
    have hfl : fs.length ≤ 3000 := by have := congrArg List.length HFS.out; simp at this; omega
    obtain ⟨g1, e1, rfl⟩ := owns_slice HO.out.o1
    have x0 : wr.cell? ⟨w.heap.size, 0, none⟩ = some (.slice a1 P.1.length c1) := (HO.out.rp.cell 0).trans rfl
    have x2 : wr.cell? ⟨w.heap.size, 2, none⟩ = some (.slice a3 P.2.2.length c3) := (HO.out.rp.cell 2).trans rfl
    by_cases hlt : k < P.1.length
    · have hltI : (k : Int) < P.1.length := by omega
      obtain ⟨⟨f1, f2, code⟩, hf⟩ : ∃ f, P.1[k]? = some f := ⟨_, List.getElem?_eq_getElem hlt⟩
      obtain ⟨fb, fo, cv, rfl, hfb, y0, y1, y2, hcv⟩ := fn_cells2 (HP.out.below HO.out.be).1 hf
      obtain ⟨ca, cc, rfl⟩ := hcv.slice
      simp only at y0 y1 y2 hcv
      have c3k : code.length ≤ 3000 := SM.out.fn _ (List.mem_of_getElem? hf)
      have HFX := Lib.hid hf
      obtain ⟨W5, hW5⟩ : ∃ W, wr.alloc (.cells #[.int .i64 f1, .int .i64 f2, .slice ca code.length cc] 46) = W := ⟨_, rfl⟩
      have b5 : Below wr.heap.size wr W5 := by rw [← hW5]; exact down_alloc (Below.refl _ _) _
      have r5 : rowAt W5 wr.heap.size 46 [.int .i64 f1, .int .i64 f2, .slice ca code.length cc] := by rw [← hW5]; exact rowAt.made _ _ _
      have z2 : W5.cell? ⟨wr.heap.size, 2, none⟩ = some (.slice ca code.length cc) := (r5.cell 2).trans rfl
      obtain ⟨W6, hW6⟩ : ∃ W, W5.alloc (.cells #[] 49) = W := ⟨_, rfl⟩
      have b6 : Below W5.heap.size W5 W6 := by rw [← hW6]; exact down_alloc (Below.refl _ _) _
      have w6z : W6.cell? ⟨wr.heap.size, 2, none⟩ = some (.slice ca code.length cc) := ((r5.below b6 r5.lt).cell 2).trans rfl
      have OE := Lib.hid (show W6.ownsRow W5.heap.size 49 3 (.slice (some ⟨W5.heap.size, 0, none⟩) 0 0) 0 [] by rw [← hW6]; exact own_e)
      have B6 := Lib.hid (down_call b5 b6)
      have SC := Lib.hid (rd_src (hcv.below (down_call b5 b6)))
      have LT5 := Lib.hid r5.lt
      have R6 := Lib.hid (r5.below b6 r5.lt)
      have B56 := Lib.hid b6
      clear b5 b6 r5 hcv hf
      go_wp2_with (first
        | (at_builtin; refine wpList_append_w (by rfl) _ _ _ (by rfl) W5.heap.size 49 i0 (.agg #[.int .i64 0, .int .i64 0, .int .i64 0]) 3 24 under_inss hi hz0 hz1 hz2 (by rfl) (by decide) (.slice (some ⟨W5.heap.size, 0, none⟩) 0 0) 0 [] (by rfl) OE.out ca code.length cc (insL code) (by rfl) (insL_length code) SC.out (ins_one _) (by unfold maxLen; omega) (by omega) B56.out.size ?_; intro nv w7 hown2 hgrow2 hb2; simp only [Nat.zero_add, List.nil_append] at hown2; obtain ⟨n7, d7, rfl⟩ := owns_slice hown2; obtain ⟨m1, m2, m3⟩ := ow_mid (o := 2) (nv := .slice n7 code.length d7) B6.out R6.out LT5.out hgrow2; have q2 := (m1.cell 2).trans rfl; have q3 := m1.free 2; obtain ⟨W8, hW8⟩ : ∃ W, w7.setCell ⟨wr.heap.size, 2, none⟩ (.slice n7 code.length d7) = W := ⟨_, rfl⟩; obtain ⟨W9, hW9⟩ : ∃ W, W8.alloc (.cells #[.int .i64 f1, .int .i64 f2, .slice n7 code.length d7] 46) = W := ⟨_, rfl⟩; have HN9 := Lib.hid (show rdAt (OwZ w.heap.size w.heap.size (w.heap.size + 1) q (.slice g1 fs.length e1) (.slice s2 P.2.1.length d2) (.slice none 0 0)) W9 (.slice n7 code.length d7) code.length (insL code) from by rw [← hW9, ← hW8]; exact ow_new (fun g hg => HO.out.zlt hg) LT5.out hown2); rw [hW8] at m2 m3; have b9 : Below W8.heap.size W8 W9 := (by rw [← hW9]; exact down_alloc (Below.refl _ _) _); have R9 := Lib.hid (show rowAt W9 W8.heap.size 46 [.int .i64 f1, .int .i64 f2, .slice n7 code.length d7] from by rw [← hW9]; exact rowAt.made _ _ _); have HO8 := Lib.hid (HO.out.below m3); have HO9 := Lib.hid (HO8.out.below b9); have t0 : W8.cell? ⟨wr.heap.size, 0, none⟩ = some (.int .i64 f1) := (m2.cell 0).trans rfl; have t1 : W8.cell? ⟨wr.heap.size, 1, none⟩ = some (.int .i64 f2) := (m2.cell 1).trans rfl; have t2 : W8.cell? ⟨wr.heap.size, 2, none⟩ = some (.slice n7 code.length d7) := (m2.cell 2).trans rfl; have t3 : W8.cell? ⟨q, 0, none⟩ = some (.slice g1 fs.length e1) := (HO8.out.rq.cell 0).trans rfl; clear hown2 hgrow2 hb2 m1 m2 m3 b9)
        | (at_builtin; refine wpList_append_w (by rfl) _ _ _ (by rfl) w.heap.size 46 l0 (.agg #[.int .i64 0, .int .i64 0, .slice none 0 0]) 3 40 under_fns li lz0 lz1 lz2 (by rfl) (by decide) (.slice g1 fs.length e1) fs.length (fs.flatMap fnC) (by rfl) HO9.out.o1 (some ⟨W8.heap.size, 0, none⟩) 1 1 [.int .i64 f1, .int .i64 f2, .slice n7 code.length d7] (by rfl) (by rfl) (row_srcO R9.out 1) (by simp [Value.oneCell']) (by unfold maxLen; omega) (by omega) HO9.out.lt ?_; intro v2 w10 hown2 hgrow2 hb2; obtain ⟨g2, e2, rfl⟩ := owns_slice hown2; obtain ⟨x4, f4, k5⟩ := HO9.out.fn (f := (f1, f2, code)) HN9.out hown2 hgrow2 hb2; have K5 := Lib.hid k5; clear hown2 hgrow2 hb2 k5))
      go_wp2_with fail
      go_roundw
      case rel => exact ⟨k + 1, _, fs ++ [((f1, f2, code), .slice n7 code.length d7)], by omega, by go_num, Lib.hid (by rw [List.map_append, HFS.out, take_nextO HFX.out]; rfl), K5⟩
      case measure => simp [intOf]; omega
    · obtain rfl : k = P.1.length := by omega
      have HFE := Lib.hid (show fs.map (·.1) = P.1 by rw [HFS.out, List.take_length])
      clear HFS hlt hk
      obtain ⟨wo, hwo⟩ : ∃ wo : World, wo = wr := ⟨_, rfl⟩
      subst hwo
      go_wp2_with fail
      clear x0 x2
      go_loopw [6] (fun i wr => ∃ (k : Nat) (u3 : Value) (ms : List (PFm × Value)), k ≤ P.2.2.length ∧ i = .int .i64 k ∧ Hid (ms.map (·.1) = P.2.2.take k) ∧ Hid (OwS w.heap.size w w.heap.size (w.heap.size + 1) q [.slice a1 P.1.length c1, .slice a2 P.2.1.length c2, .slice a3 P.2.2.length c3] [.slice none 0 0, .slice none 0 0, .slice none 0 0] (.slice g1 fs.length e1) (.slice s2 P.2.1.length d2) u3 fs P.2.1 ms wr)) (fun i _ => P.2.2.length - (intOf i).toNat)
      case atStart => exact ⟨0, _, [], Nat.zero_le _, rfl, Lib.hid (by simp), HO⟩
      case round =>
        obtain ⟨k, u3, ms, hk, rfl, HMS, HM⟩ := hrel
        have hml : ms.length ≤ 3000 := by have := congrArg List.length HMS.out; simp at this; omega
        obtain ⟨g3, e3, rfl⟩ := owns_slice HM.out.o3
        have x2 : wr.cell? ⟨w.heap.size, 2, none⟩ = some (.slice a3 P.2.2.length c3) := (HM.out.rp.cell 2).trans rfl
        by_cases hlt : k < P.2.2.length
        · have hltI : (k : Int) < P.2.2.length := by omega
          obtain ⟨⟨fk, fa, fb', cons⟩, hf⟩ : ∃ f, P.2.2[k]? = some f := ⟨_, List.getElem?_eq_getElem hlt⟩
          obtain ⟨fb, fo, cv, rfl, hfb, y0, y1, y1', y2, hcv⟩ := fm_cells (HP.out.below HM.out.be).2.2 hf
          obtain ⟨ca, cc, rfl⟩ := hcv.slice
          simp only at y0 y1 y1' y2 hcv
          have c3k : cons.length ≤ 3000 := SM.out.fm _ (List.mem_of_getElem? hf)
          have HFX := Lib.hid hf
          obtain ⟨W5, hW5⟩ : ∃ W, wr.alloc (.cells #[.int .i64 fk, .int .i64 fa, .int .i64 fb', .slice ca cons.length cc] 56) = W := ⟨_, rfl⟩
          have b5 : Below wr.heap.size wr W5 := by rw [← hW5]; exact down_alloc (Below.refl _ _) _
          have r5 : rowAt W5 wr.heap.size 56 [.int .i64 fk, .int .i64 fa, .int .i64 fb', .slice ca cons.length cc] := by rw [← hW5]; exact rowAt.made _ _ _
          have z2 : W5.cell? ⟨wr.heap.size, 3, none⟩ = some (.slice ca cons.length cc) := (r5.cell 3).trans rfl
          obtain ⟨W6, hW6⟩ : ∃ W, W5.alloc (.cells #[] 3) = W := ⟨_, rfl⟩
          have b6 : Below W5.heap.size W5 W6 := by rw [← hW6]; exact down_alloc (Below.refl _ _) _
          have w6z : W6.cell? ⟨wr.heap.size, 3, none⟩ = some (.slice ca cons.length cc) := ((r5.below b6 r5.lt).cell 3).trans rfl
          have OE := Lib.hid (show W6.ownsRow W5.heap.size 3 1 (.slice (some ⟨W5.heap.size, 0, none⟩) 0 0) 0 [] by rw [← hW6]; exact own_e)
          have B6 := Lib.hid (down_call b5 b6)
          have SC := Lib.hid (rd_src (hcv.below (down_call b5 b6)))
          have LT5 := Lib.hid r5.lt
          have R6 := Lib.hid (r5.below b6 r5.lt)
          have B56 := Lib.hid b6
          clear b5 b6 r5 hcv hf
          go_wp2_with (first
            | (at_builtin; refine wpList_append_w (by rfl) _ _ _ (by rfl) W5.heap.size 3 k0 (.int .i64 0) 1 8 under_i64s ki kz0 kz1 kz2 (by rfl) (by decide) (.slice (some ⟨W5.heap.size, 0, none⟩) 0 0) 0 [] (by rfl) OE.out ca cons.length cc (intL cons) (by rfl) (by simp) SC.out (int_one _) (by unfold maxLen; omega) (by omega) B56.out.size ?_; intro nv w7 hown2 hgrow2 hb2; simp only [Nat.zero_add, List.nil_append] at hown2; obtain ⟨n7, d7, rfl⟩ := owns_slice hown2; obtain ⟨m1, m2, m3⟩ := ow_mid (o := 3) (nv := .slice n7 cons.length d7) B6.out R6.out LT5.out hgrow2; have q2 := (m1.cell 3).trans rfl; have q3 := m1.free 3; obtain ⟨W8, hW8⟩ : ∃ W, w7.setCell ⟨wr.heap.size, 3, none⟩ (.slice n7 cons.length d7) = W := ⟨_, rfl⟩; obtain ⟨W9, hW9⟩ : ∃ W, W8.alloc (.cells #[.int .i64 fk, .int .i64 fa, .int .i64 fb', .slice n7 cons.length d7] 56) = W := ⟨_, rfl⟩; have HN9 := Lib.hid (show rdAt (OwZ w.heap.size w.heap.size (w.heap.size + 1) q (.slice g1 fs.length e1) (.slice s2 P.2.1.length d2) (.slice g3 ms.length e3)) W9 (.slice n7 cons.length d7) cons.length (intL cons) from by rw [← hW9, ← hW8]; exact ow_new (fun g hg => HM.out.zlt hg) LT5.out hown2); rw [hW8] at m2 m3; have b9 : Below W8.heap.size W8 W9 := (by rw [← hW9]; exact down_alloc (Below.refl _ _) _); have R9 := Lib.hid (show rowAt W9 W8.heap.size 56 [.int .i64 fk, .int .i64 fa, .int .i64 fb', .slice n7 cons.length d7] from by rw [← hW9]; exact rowAt.made _ _ _); have HM8 := Lib.hid (HM.out.below m3); have HM9 := Lib.hid (HM8.out.below b9); have t0 : W8.cell? ⟨wr.heap.size, 0, none⟩ = some (.int .i64 fk) := (m2.cell 0).trans rfl; have t1 : W8.cell? ⟨wr.heap.size, 1, none⟩ = some (.int .i64 fa) := (m2.cell 1).trans rfl; have t1' : W8.cell? ⟨wr.heap.size, 2, none⟩ = some (.int .i64 fb') := (m2.cell 2).trans rfl; have t2 : W8.cell? ⟨wr.heap.size, 3, none⟩ = some (.slice n7 cons.length d7) := (m2.cell 3).trans rfl; have t3 : W8.cell? ⟨q, 2, none⟩ = some (.slice g3 ms.length e3) := (HM8.out.rq.cell 2).trans rfl; clear hown2 hgrow2 hb2 m1 m2 m3 b9)
            | (at_builtin; refine wpList_append_w (by rfl) _ _ _ (by rfl) w.heap.size 56 m0 (.agg #[.int .i64 0, .int .i64 0, .int .i64 0, .slice none 0 0]) 4 48 under_fms mi mz0 mz1 mz2 (by rfl) (by decide) (.slice g3 ms.length e3) ms.length (ms.flatMap fmC) (by rfl) HM9.out.o3 (some ⟨W8.heap.size, 0, none⟩) 1 1 [.int .i64 fk, .int .i64 fa, .int .i64 fb', .slice n7 cons.length d7] (by rfl) (by rfl) (row_srcO R9.out 1) (by simp [Value.oneCell']) (by unfold maxLen; omega) (by omega) HM9.out.lt ?_; intro v2 w10 hown2 hgrow2 hb2; obtain ⟨g2, e2, rfl⟩ := owns_slice hown2; obtain ⟨x4, f4, k5⟩ := HM9.out.fm (m := (fk, fa, fb', cons)) HN9.out hown2 hgrow2 hb2; have K5 := Lib.hid k5; clear hown2 hgrow2 hb2 k5))
          go_wp2_with fail
          go_roundw
          case rel => exact ⟨k + 1, _, ms ++ [((fk, fa, fb', cons), .slice n7 cons.length d7)], by omega, by go_num, Lib.hid (by rw [List.map_append, HMS.out, take_nextO HFX.out]; rfl), K5⟩
          case measure => simp [intOf]; omega
        · obtain rfl : k = P.2.2.length := by omega
          have HME := Lib.hid (show ms.map (·.1) = P.2.2 by rw [HMS.out, List.take_length])
          have q0 : wr.cell? ⟨q, 0, none⟩ = some (.slice g1 fs.length e1) := (HM.out.rq.cell 0).trans rfl
          have q1 : wr.cell? ⟨q, 1, none⟩ = some (.slice s2 P.2.1.length d2) := (HM.out.rq.cell 1).trans rfl
          have q2 : wr.cell? ⟨q, 2, none⟩ = some (.slice g3 ms.length e3) := (HM.out.rq.cell 2).trans rfl
          have p0 : wr.cell? ⟨w.heap.size + 1, 0, none⟩ = some (.slice none 0 0) := (HM.out.r2.cell 0).trans rfl
          have p1 : wr.cell? ⟨w.heap.size + 1, 1, none⟩ = some (.slice none 0 0) := (HM.out.r2.cell 1).trans rfl
          have p2 : wr.cell? ⟨w.heap.size + 1, 2, none⟩ = some (.slice none 0 0) := (HM.out.r2.cell 2).trans rfl
          have h0 := HM.out.r2.free 0
          have h1 := HM.out.r2.free 1
          have h2 := HM.out.r2.free 2
          have RS := Lib.hid HM.out.res
          go_wp2_with fail
          refine bodyPost_ret (v := .agg #[.slice g1 fs.length e1, .slice s2 P.2.1.length d2, .slice g3 ms.length e3]) (by simp [results, Tryd.results9, go_sem, p0, p1, p2]) rfl ?_
          exact ⟨_, _, _, fs, ms, _, _, _, _, _, rfl, HFE.out, HME.out, RS.out⟩
end Go.Proofs.YtlfbfnkmbceejaaDoor
