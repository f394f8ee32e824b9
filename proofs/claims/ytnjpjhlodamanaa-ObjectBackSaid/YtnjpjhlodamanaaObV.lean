/-
  An object is put ('Put'): where it may not be.
  Conditions: as each states.
-/
import Derived.Test.YtnjpjhlodamanaaObQ
import Derived.Test.YtnjpjhlodamanaaObT
namespace Go.Proofs.Ytnjpjhlodamanaa
open Go.ChangeShapes Go.WideShapes Go.ChangeAt Go.RowKit
set_option linter.unusedVariables false
set_option linter.unusedSimpArgs false
set_option maxRecDepth 100000

/-- A slice that reads as xs, in no block of F. -/
def ReadsOff (w : World) (F : Nat → Prop) (a : Option Addr) (xs : List Int) : Prop :=
  ∀ j u, (wordsL xs)[j]? = some u → ∃ b o, a = some ⟨b, o, none⟩ ∧ ¬ F b ∧ w.cell? ⟨b, o + j, none⟩ = some u
theorem ReadsOff.upon {w w' : World} {F : Nat → Prop} {a : Option Addr} {xs : List Int} (h : ReadsOff w F a xs) (hu : Upon F w w') : ReadsOff w' F a xs := fun j u hj => by
  obtain ⟨b, o, e, hf, hc⟩ := h j u hj
  refine ⟨b, o, e, hf, ?_⟩
  have hb := World.block_lt_of_cell? w _ hc
  rw [World.cell?_of_block (hu.block b hb hf)]
  exact hc
theorem ReadsOff.below {w w' : World} {F : Nat → Prop} {a : Option Addr} {xs : List Int} (h : ReadsOff w F a xs) (hb : Below w.heap.size w w') : ReadsOff w' F a xs := fun j u hj => by
  obtain ⟨b, o, e, hf, hc⟩ := h j u hj
  exact ⟨b, o, e, hf, (hb.cell (p := ⟨b, o + j, none⟩) (World.block_lt_of_cell? w _ hc)).trans hc⟩
theorem ReadsOff.reads {w : World} {F : Nat → Prop} {a : Option Addr} {xs : List Int} {c : Nat} (h : ReadsOff w F a xs) : readsAt w (.slice a xs.length c) xs.length (wordsL xs) := by
  refine ⟨a, c, rfl, ?_⟩
  cases xs with
  | nil => exact .inl rfl
  | cons x r =>
    obtain ⟨b, o, rfl, _, _⟩ := h 0 _ rfl
    refine .inr ⟨b, o, rfl, fun j u hj => ?_⟩
    obtain ⟨b', o', e, _, hc⟩ := h j u hj
    cases e
    exact hc

def Ar.puts (A : Ar) (base at_ : Int) : List Int → Ar
  | [] => A
  | x :: r => (A.set base at_ x).puts base (at_ + 1) r
theorem Ar.puts_snoc (base : Int) (x : Int) : ∀ (l : List Int) (A : Ar) (at_ : Int), A.puts base at_ (l ++ [x]) = (A.puts base at_ l).set base (at_ + l.length) x
  | [], A, at_ => by simp [Ar.puts]
  | y :: l, A, at_ => by
    simp only [List.cons_append, Ar.puts, Ar.puts_snoc base x l, List.length_cons]
    congr 1
    omega

def Ar.putOk (A : Ar) (base half space top : Int) (o : Ob) : Bool := o.may && match A.objs base half space top with
  | some obs => o.fs.all (fieldOk (space * half) obs) && decide ((o.words : Int) ≤ half - top)
  | none => false

abbrev zeroPut : Value := .tuple #[heapV 0 0 0 0, .int .u64 0, .bool false]

set_option maxHeartbeats 4000000 in
theorem put_bad {w : World} {p : Nat} {F : Nat → Prop} {A : Ar} (hA : Held w p F A) (base half space top k t : Int) (a : Option Addr) (nf c : Nat) (s : ByteArray) (hm : headR k t nf s.size = false) :
    Calls Try.prog 9 #[.pointer (some ⟨p, 0, none⟩), heapV base half space top, obj k t a nf c s] w fun e w' => e = .returned zeroPut ∧ Below w.heap.size w w' := by
  have HA := Lib.hid (fun W (hb : Below w.heap.size w W) => look_any (hA.below hb) base half space top)
  have HH := Lib.hid (headOf_no k t a nf c s hm)
  clear hA hm
  go_enter Try.func9, Try.ntmps9
  go_wp2_with fail
  refine (HH.out _).mono ?_
  rintro e w1 ⟨rfl, b1⟩
  have hz := b1.size
  simp at hz
  have hz4 : w.heap.size < w1.heap.size := by omega
  have hz6 : w.heap.size + 1 + 1 < w1.heap.size := by omega
  have HB1 : Hid (Below w.heap.size w w1) := by
    show Below _ _ _
    repeat (first | exact Below.refl _ _ | refine bl_alloc ?_ _ | refine bl_call ?_ b1)
  have R4 : Hid (rowAt w1 w.heap.size 33 [.int .i64 base, .int .i64 half, .int .i64 space, .int .i64 top]) := (((rowAt.made w _ _).alloc _).alloc _).below b1 (by simp <;> omega)
  have R6 : Hid (rowAt w1 (w.heap.size + 1 + 1) 33 [.int .i64 0, .int .i64 0, .int .i64 0, .int .i64 0]) := (rowAt.made_at (w := (w.alloc _).alloc _) _ _ (by simp)).below b1 (by simp)
  have c0 := R4.out.cell 0
  have c1 := R4.out.cell 1
  have c2 := R4.out.cell 2
  have c3 := R4.out.cell 3
  simp only [List.getElem?_cons_zero, List.getElem?_cons_succ] at c0 c1 c2 c3
  clear b1
  go_wp2_with fail
  refine (HA.out _ (bl_alloc HB1.out _)).mono ?_
  rintro e w2 ⟨b2, ⟨obs, bw, bh, T, h1, h2, h3, h4, h5, rfl, h6, h7, h8⟩ | ⟨h1, rfl⟩⟩
  all_goals
    have HB2 : Hid (Below w1.heap.size w1 w2) := bl_call (bl_alloc (Below.refl _ _) _) b2
    have r6 := R6.out.below HB2.out hz6
    have z0 := r6.cell 0
    have z1 := r6.cell 1
    have z2 := r6.cell 2
    have z3 := r6.cell 3
    have f0 := r6.free 0
    have f1 := r6.free 1
    have f2 := r6.free 2
    have f3 := r6.free 3
    simp only [List.getElem?_cons_zero, List.getElem?_cons_succ] at z0 z1 z2 z3
    have hs2 := HB2.out.size
    have hz62 : w.heap.size + 1 + 1 < w2.heap.size := by omega
    try clear h5 h6 h7 h8
    clear h1 b2 r6
    go_wp2
    refine bodyPost_ret (v := zeroPut) (by simp [results, Try.results9, go_sem, z0, z1, z2, z3, hz62]) rfl ⟨rfl, ?_⟩
    repeat (first | exact Below.refl _ _ | exact bl_call HB1.out HB2.out | refine bl_alloc ?_ _ | refine bl_drew ?_ | refine bl_set ?_ (by simp <;> omega) _)
end Go.Proofs.Ytnjpjhlodamanaa
