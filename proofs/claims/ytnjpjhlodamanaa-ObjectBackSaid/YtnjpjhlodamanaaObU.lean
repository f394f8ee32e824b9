/-
  The object to which a word points ('Get').
  Conditions: as each states.
-/
import Derived.Test.YtnjpjhlodamanaaObQ
import Derived.Test.YtnjpjhlodamanaaObS
import Derived.Test.YtnjpjhlodamanaaObW
namespace Go.Proofs.Ytnjpjhlodamanaa
open Go.ChangeShapes Go.WideShapes Go.ChangeAt Go.RowKit
set_option linter.unusedVariables false
set_option linter.unusedSimpArgs false
set_option maxRecDepth 100000

theorem object_any {obs : List Ob} {m : Nat} {o : Ob} (h : objAt obs m = some o) (hok : AllOk obs) {w : World} {bw : Nat} (hw : ∀ i x, (flat obs)[i]? = some x → w.cell? ⟨bw, i, none⟩ = some (.int .u64 x)) (first : Int) (bh n : Nat) (hn : (flat obs).length = n) (hn2 : n ≤ 2000) :
    Calls Try.prog 37 #[viewV first (some ⟨bw, 0, none⟩) (some ⟨bh, 0, none⟩) n n, .int .i64 (m : Int)] w fun e w' => ∃ a c, e = .returned (obj o.kind o.tag a o.fs.length c ⟨o.tx.toArray⟩) ∧ w'.ownsRow w.heap.size 39 1 (.slice a o.fs.length c) o.fs.length (wordsL o.fs) ∧ Below w.heap.size w w' := by
  have hmay := (hok o (objAt_mem obs m o h)).1
  have hmh := (Ob.may_split hmay).2
  have hsp : m + 1 + longH o.kind o.size ≤ n := by
    obtain ⟨_, _, h2⟩ := objAt_words h
    have e : o.words = 1 + longH o.kind o.size := rfl
    omega
  obtain ⟨hhead, hbody⟩ := flat_at h
  have hc := hw _ _ hhead
  have hxr : ∀ j u, (wordsL o.body)[j]? = some u → w.cell? ⟨bw, m + 1 + j, none⟩ = some u := by
    intro j u hj
    rw [List.getElem?_map, Option.map_eq_some_iff] at hj
    obtain ⟨y, hy, rfl⟩ := hj
    obtain ⟨hl, he⟩ := List.getElem?_eq_some_iff.1 hy
    have := hw _ _ (hbody j hl)
    rwa [he] at this
  have hbd := mayH_bounds hmh
  have hk : o.kind = 1 ∨ o.kind = 2 ∨ o.kind = 3 ∨ o.kind = 4 := by omega
  unfold Ob.head at hc
  by_cases hk2 : o.kind = 2
  · have hf0 := Ob.fs_nil hmay hk2
    have hsz : o.size = o.tx.length := by simp [Ob.size, sizeH, hk2]
    have hbo : o.body = pack o.tx := by simp [Ob.body, hk2]
    rw [hk2, hsz] at hmh hsp hc
    rw [hbo] at hxr
    rw [hf0, hk2]
    by_cases h0 : o.tx.length = 0
    · have htx : o.tx = [] := List.length_eq_zero_iff.1 h0
      rw [htx] at hmh hsp hc ⊢
      exact object_20 first bw bh m n o.tag hmh hn2 hsp w hc
    · have := object_21 first bw bh m n o.tag o.tx.length hmh hn2 hsp w hc h0 (pack o.tx) (pack_length _) (pack_fit _) hxr
      rw [unpack_pack] at this
      exact this
  · have ht0 := Ob.tx_nil hmay hk2
    have hsz : o.size = o.fs.length := by simp [Ob.size, sizeH, hk2]
    have hbo : o.body = o.fs := by simp [Ob.body, hk2]
    rw [hsz] at hmh hsp hc
    rw [hbo] at hxr
    rw [ht0]
    rcases hk with e | e | e | e
    · rw [e] at hmh hsp hc ⊢
      exact object_1 first bw bh m n o.tag o.fs hmh hn2 hsp w hc hxr
    · exact absurd e hk2
    · rw [e] at hmh hsp hc ⊢
      exact object_3 first bw bh m n o.tag o.fs hmh hn2 hsp w hc hxr
    · rw [e] at hmh hsp hc ⊢
      exact object_4 first bw bh m n o.tag o.fs hmh hn2 hsp w hc hxr

def Ar.getOb (A : Ar) (base half space top x : Int) : Option Ob := match A.objs base half space top with
  | some obs => match refers (space * half) obs x with
    | some i => objAt obs i
    | none => none
  | none => none

theorem refers_some {first : Int} {obs : List Ob} {x : Int} {i : Nat} (h : refers first obs x = some i) : ∃ o, objAt obs i = some o := by
  unfold refers at h
  split at h
  · rename_i hc
    simp only [Bool.and_eq_true] at hc
    cases h
    exact Option.isSome_iff_exists.1 hc.2
  · cases h

/-- What 'Get' tells. -/
def GotT (A : Ar) (base half space top x : Int) (w : World) (e : Ending) (w' : World) : Prop :=
  Below w.heap.size w w' ∧ ((∃ o a c, A.getOb base half space top x = some o ∧ e = .returned (.tuple #[obj o.kind o.tag a o.fs.length c ⟨o.tx.toArray⟩, .bool true]) ∧ w'.ownsRow w.heap.size 39 1 (.slice a o.fs.length c) o.fs.length (wordsL o.fs)) ∨
    (A.getOb base half space top x = none ∧ e = .returned (.tuple #[obj 0 0 none 0 0 ⟨#[]⟩, .bool false])))

set_option maxHeartbeats 8000000 in
theorem get_any' {w : World} {p : Nat} {F : Nat → Prop} {A : Ar} (hA : Held w p F A) (base half space top x : Int) (hx : fitW x) :
    Calls Try.prog 15 #[.pointer (some ⟨p, 0, none⟩), heapV base half space top, .int .u64 x] w (GotT A base half space top x w) := by
  have HA := Lib.hid (fun W (hb : Below w.heap.size w W) => look_any (hA.below hb) base half space top)
  have HOK := Lib.hid hA.ok
  clear hA
  have HX := Lib.hid hx
  clear hx
  go_enter Try.func15, Try.ntmps15
  go_wp2_with fail
  refine (HA.out _ (bl_alloc (bl_alloc (Below.refl _ _) _) _)).mono ?_
  rintro e w1 ⟨b1, hlook⟩
  have hz := b1.size
  simp at hz
  have hz1 : w.heap.size + 1 < w1.heap.size := by omega
  have hrow6 : rowAt w1 (w.heap.size + 1) 35 [.int .i64 0, .int .i64 0, .slice none 0 0, .string ⟨#[]⟩] := (rowAt.made_at (w := w.alloc (.cells #[.int .i64 base, .int .i64 half, .int .i64 space, .int .i64 top] 33)) 35 [.int .i64 0, .int .i64 0, .slice none 0 0, .string ⟨#[]⟩] (by simp)).below b1 (by simp)
  have HB1 : Hid (Below w.heap.size w w1) := bl_call (bl_alloc (bl_alloc (Below.refl _ _) _) _) b1
  clear b1
  have R6 := Lib.hid hrow6
  clear hrow6
  rcases hlook with ⟨obs, bw, bh, T, h1, h2, h3, h4, h5, rfl, h6, h7, h8⟩ | ⟨h1, rfl⟩
  · have hml : (marks obs).length = T := by rw [marks_length]; exact h8
    have hfi := fun (W : World) (hb : Below w1.heap.size w1 W) => find_any (space * half) ⟨h2, h3⟩ (some ⟨bw, 0, none⟩) (some ⟨bh, 0, none⟩) T (marks obs) x HX.out W (Marks.row (h7.below hb h7.lt) (by omega))
    rw [hml] at hfi
    simp only [findI_marks] at hfi
    have hok := (objs_ok HOK.out h1).1
    have hgo : A.getOb base half space top x = match refers (space * half) obs x with | some i => objAt obs i | none => none := by unfold Ar.getOb; rw [h1]
    have hwd : ∀ (W : World), Below w1.heap.size w1 W → ∀ i y, (flat obs)[i]? = some y → W.cell? ⟨bw, i, none⟩ = some (.int .u64 y) := fun W hb i y hy => by
      rw [(h6.below hb h6.lt).cell, List.getElem?_map, hy]
      rfl
    have HH := Lib.hid (And.intro h2 (And.intro h3 (And.intro h4 h8)))
    have HWD : Hid (∀ (W : World), Below w1.heap.size w1 W → ∀ i y, (flat obs)[i]? = some y → W.cell? ⟨bw, i, none⟩ = some (.int .u64 y)) := hwd
    clear h1 h5 h6 h7 hml hwd h2 h3 h4 h8
    generalize space * half = Fi at *
    cases hr : refers Fi obs x with
    | some i =>
      obtain ⟨o, ho⟩ := refers_some hr
      simp only [hr, ho] at hgo
      rw [hr] at hfi
      simp only [findV] at hfi
      have HFI := Lib.hid hfi
      have HGO := Lib.hid hgo
      have HOB := Lib.hid (fun (W : World) (hb : Below w1.heap.size w1 W) => object_any ho hok (w := W) (bw := bw) (HWD.out W hb) Fi bh T HH.out.2.2.2 HH.out.2.2.1)
      clear hfi hgo hr ho hok
      go_wp2_with fail
      refine (HFI.out _ (bl_alloc (Below.refl _ _) _)).mono ?_
      rintro e w2 ⟨rfl, b2⟩
      have hz2 := b2.size
      simp at hz2
      have hz21 : w1.heap.size < w2.heap.size := by omega
      have hrow8 : rowAt w2 w1.heap.size 73 [.int .i64 Fi, .slice (some ⟨bw, 0, none⟩) T T, .slice (some ⟨bh, 0, none⟩) T T] := (rowAt.made w1 _ _).below b2 (by simp)
      have c0 := hrow8.cell 0
      have c1 := hrow8.cell 1
      have c2 := hrow8.cell 2
      simp only [List.getElem?_cons_zero, List.getElem?_cons_succ] at c0 c1 c2
      have HB2 : Hid (Below w1.heap.size w1 w2) := bl_call (bl_alloc (Below.refl _ _) _) b2
      clear b2 hrow8
      go_wp2_with fail
      refine (HOB.out _ HB2.out).mono ?_
      rintro e w3 ⟨a, c, rfl, ho3, b3⟩
      have HO3 := Lib.hid ho3
      have HB3 : Hid (Below w1.heap.size w1 w3) := bl_call HB2.out b3
      have hs3 := HB3.out.size
      have hs32 := b3.size
      have r6 := R6.out.below HB3.out hz1
      have z0 := r6.cell 0
      have z1 := r6.cell 1
      have z2 := r6.cell 2
      have z3 := r6.cell 3
      have f0 := r6.free 0
      have f1 := r6.free 1
      have f2 := r6.free 2
      have f3 := r6.free 3
      simp only [List.getElem?_cons_zero, List.getElem?_cons_succ] at z0 z1 z2 z3
      clear ho3 b3 r6
      go_wp2
      refine bodyPost_ret (v := .tuple #[obj o.kind o.tag a o.fs.length c ⟨o.tx.toArray⟩, .bool true]) (by simp [results, Try.results15, go_sem, z0, z1, z2, z3]) rfl ⟨?_, .inl ⟨o, a, c, HGO.out, rfl, ?_⟩⟩
      · repeat (first | exact Below.refl _ _ | exact bl_call HB1.out HB3.out | refine bl_alloc ?_ _ | refine bl_drew ?_ | refine bl_set ?_ (by simp) _)
      · refine owns_base (B := w2.heap.size) ?_ fun g hg => by have := (HO3.out.lt g hg).1; omega
        repeat (first | exact HO3.out | refine owns_drew ?_ | refine owns_set ?_ _ _ (by simp; omega))
    | none =>
      simp only [hr] at hgo
      rw [hr] at hfi
      simp only [findV] at hfi
      have HFI := Lib.hid hfi
      have HGO := Lib.hid hgo
      clear hfi hgo hr hok
      go_wp2_with fail
      refine (HFI.out _ (bl_alloc (Below.refl _ _) _)).mono ?_
      rintro e w2 ⟨rfl, b2⟩
      have HB2 : Hid (Below w1.heap.size w1 w2) := bl_call (bl_alloc (Below.refl _ _) _) b2
      have r6 := R6.out.below HB2.out hz1
      have z0 := r6.cell 0
      have z1 := r6.cell 1
      have z2 := r6.cell 2
      have z3 := r6.cell 3
      have f0 := r6.free 0
      have f1 := r6.free 1
      have f2 := r6.free 2
      have f3 := r6.free 3
      simp only [List.getElem?_cons_zero, List.getElem?_cons_succ] at z0 z1 z2 z3
      clear b2 r6
      go_wp2
      refine bodyPost_ret (v := .tuple #[obj 0 0 none 0 0 ⟨#[]⟩, .bool false]) (by simp [results, Try.results15, go_sem, z0, z1, z2, z3]) rfl ⟨?_, .inr ⟨HGO.out, rfl⟩⟩
      repeat (first | exact Below.refl _ _ | exact bl_call HB1.out HB2.out | refine bl_alloc ?_ _ | refine bl_drew ?_ | refine bl_set ?_ (by simp) _)
  · have hgo : A.getOb base half space top x = none := by unfold Ar.getOb; rw [h1]
    have hfi := fun (W : World) => find_any 0 ⟨by omega, by omega⟩ none none 0 [] x HX.out W (Marks.none W)
    have hn : findI 0 [] x = none := by simp [findI]
    simp only [hn, findV] at hfi
    have HFI := Lib.hid hfi
    have HGO := Lib.hid hgo
    clear hfi hgo hn h1
    go_wp2_with fail
    refine (HFI.out _).mono ?_
    rintro e w2 ⟨rfl, b2⟩
    have HB2 : Hid (Below w1.heap.size w1 w2) := bl_call (bl_alloc (Below.refl _ _) _) b2
    have r6 := R6.out.below HB2.out hz1
    have z0 := r6.cell 0
    have z1 := r6.cell 1
    have z2 := r6.cell 2
    have z3 := r6.cell 3
    have f0 := r6.free 0
    have f1 := r6.free 1
    have f2 := r6.free 2
    have f3 := r6.free 3
    simp only [List.getElem?_cons_zero, List.getElem?_cons_succ] at z0 z1 z2 z3
    clear b2 r6
    go_wp2
    refine bodyPost_ret (v := .tuple #[obj 0 0 none 0 0 ⟨#[]⟩, .bool false]) (by simp [results, Try.results15, go_sem, z0, z1, z2, z3]) rfl ⟨?_, .inr ⟨HGO.out, rfl⟩⟩
    repeat (first | exact Below.refl _ _ | exact bl_call HB1.out HB2.out | refine bl_alloc ?_ _ | refine bl_drew ?_ | refine bl_set ?_ (by simp) _)
end Go.Proofs.Ytnjpjhlodamanaa
