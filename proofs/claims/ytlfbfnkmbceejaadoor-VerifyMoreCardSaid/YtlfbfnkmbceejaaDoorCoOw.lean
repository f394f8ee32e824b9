/-
  A program's copy on its way (OwnProgram): rows of the call's own, with inner slices of the call's own; what an append leaves.
  Conditions: as each states.
-/
import Derived.Test.YtlfbfnkmbceejaaDoorCoIn
import Derived.Test.YtlfbfnkmbceejaaDoorApp
namespace Go.Proofs.YtlfbfnkmbceejaaDoor
open Go.ChangeShapes Go.WideShapes Go.ChangeAt Go.RowKit
set_option linter.unusedVariables false
set_option linter.unusedSimpArgs false
set_option maxRecDepth 100000

/-- The blocks in which no inner slice lies. -/
def OwZ (B b p2 q : Nat) (u1 u2 u3 : Value) (g : Nat) : Prop := g < B ∨ g = b ∨ g = p2 ∨ g = q ∨ u1.ownBlock = some g ∨ u2.ownBlock = some g ∨ u3.ownBlock = some g
structure OwS (B : Nat) (n0 : World) (b p2 q : Nat) (r1 r2 : List Value) (u1 u2 u3 : Value) (fs : List (PFn × Value)) (Q : List ByteArray) (ms : List (PFm × Value)) (w : World) : Prop where
  rp : rowAt w b 26 r1
  r2 : rowAt w p2 26 r2
  rq : rowAt w q 26 [u1, u2, u3]
  o1 : w.ownsRow B 46 3 u1 fs.length (fs.flatMap fnC)
  o2 : w.ownsRow B 9 1 u2 Q.length (strL Q)
  o3 : w.ownsRow B 56 4 u3 ms.length (ms.flatMap fmC)
  i1 : Inner (OwZ B b p2 q u1 u2 u3) w (fun f : PFn => f.2.2.length) (fun f => insL f.2.2) fs
  i3 : Inner (OwZ B b p2 q u1 u2 u3) w (fun m : PFm => m.2.2.2.length) (fun m => intL m.2.2.2) ms
  d : ∀ g, u1.ownBlock = some g ∨ u2.ownBlock = some g ∨ u3.ownBlock = some g → g ≠ b ∧ g ≠ p2 ∧ g ≠ q
  d12 : ∀ g, u1.ownBlock = some g → u2.ownBlock ≠ some g
  d13 : ∀ g, u1.ownBlock = some g → u3.ownBlock ≠ some g
  d23 : ∀ g, u2.ownBlock = some g → u3.ownBlock ≠ some g
  nb : b ≠ p2 ∧ b ≠ q ∧ p2 ≠ q
  bb : B ≤ b
  b2 : B ≤ p2
  bq : B ≤ q
  be : Below B n0 w
section
variable {B b p2 q : Nat} {n0 w w' : World} {r1 r2 : List Value} {u1 u2 u3 : Value} {fs : List (PFn × Value)} {Q : List ByteArray} {ms : List (PFm × Value)}
theorem OwS.lt (h : OwS B n0 b p2 q r1 r2 u1 u2 u3 fs Q ms w) : B ≤ w.heap.size := Nat.le_trans h.bq (Nat.le_of_lt h.rq.lt)
theorem OwS.below (h : OwS B n0 b p2 q r1 r2 u1 u2 u3 fs Q ms w) (hb : Below w.heap.size w w') : OwS B n0 b p2 q r1 r2 u1 u2 u3 fs Q ms w' :=
  { h with rp := h.rp.below hb h.rp.lt, r2 := h.r2.below hb h.r2.lt, rq := h.rq.below hb h.rq.lt
           o1 := owns_upon h.o1 (upon_of_below hb) fun _ _ t => t, o2 := owns_upon h.o2 (upon_of_below hb) fun _ _ t => t, o3 := owns_upon h.o3 (upon_of_below hb) fun _ _ t => t
           i1 := fun y hy => (h.i1 y hy).below hb, i3 := fun y hy => (h.i3 y hy).below hb, be := h.be.trans (hb.mono h.lt) }
theorem zmove {Z Z' G : Nat → Prop} {q : Nat} {W w2 : World} {sv v2 : Value} {n : Nat} {cs : List Value} (h : rdAt Z W sv n cs) (hZ : ∀ g, g < W.heap.size → Z' g → Z g) (hu : Upon G W w2) (hG : ∀ g, g < W.heap.size → G g → Z g) (hq : Z q) (hqs : q < W.heap.size) (o : Nat) : rdAt Z' (w2.setCell ⟨q, o, none⟩ v2) sv n cs := by
  have h1 := h.off (T := fun g => Z g ∨ Z' g) fun k hk e => e.elim id (hZ k hk)
  have h2 := h1.upon hu fun k hk e => .inl (hG k hk e)
  have h3 := h2.upon (Upon.setCell (S := fun g => g = q) (w := w2) ⟨q, o, none⟩ v2 rfl) fun k _ e => .inl (e ▸ hq)
  exact h3.off fun k _ e => .inr e
theorem own_lt {w : World} {B : Nat} {e : TypeId} {size : Nat} {v : Value} {n : Nat} {xs : List Value} (h : w.ownsRow B e size v n xs) {g : Nat} (hg : v.ownBlock = some g) : g < w.heap.size := (own_ge h g hg).2
theorem OwS.fn {W w2 : World} {v2 sv : Value} {f : PFn} (h : OwS B n0 b p2 q r1 r2 u1 u2 u3 fs Q ms W) (hn : rdAt (OwZ B b p2 q u1 u2 u3) W sv f.2.2.length (insL f.2.2))
    (ho : w2.ownsRow B 46 3 v2 (fs.length + 1) (fs.flatMap fnC ++ fnC (f, sv))) (hg : W.grownBy w2 u1.ownBlock) (hb2 : v2.ownBlock = u1.ownBlock ∨ v2.ownBlock = some W.heap.size) :
    w2.cell? ⟨q, 0, none⟩ = some u1 ∧ w2.frozen? ⟨q, 0, none⟩ = false ∧ OwS B n0 b p2 q r1 r2 v2 u2 u3 (fs ++ [(f, sv)]) Q ms (w2.setCell ⟨q, 0, none⟩ v2) := by
  have hu : Upon (fun g => u1.ownBlock = some g) W w2 := ⟨hg.os, hg.tape, hg.output, hg.size, fun k hk h => hg.block k hk fun e => h e.symm⟩
  have hu2 : Upon (fun g => g = q) w2 (w2.setCell ⟨q, 0, none⟩ v2) := Upon.setCell _ _ rfl
  have lb := h.rp.lt; have l2 := h.r2.lt; have lq := h.rq.lt
  have rq2 := h.rq.upon hu fun e => (h.d q (.inl e)).2.2 rfl
  have hv : ∀ g, v2.ownBlock = some g → (g < W.heap.size → u1.ownBlock = some g) := fun g e hlt => by
    rcases hb2 with hb | hb
    · exact hb ▸ e
    · rw [hb] at e; cases e; omega
  have hZ : ∀ g, g < W.heap.size → OwZ B b p2 q v2 u2 u3 g → OwZ B b p2 q u1 u2 u3 g := fun g hlt e => by
    rcases e with e | e | e | e | e | e | e
    · exact .inl e
    · exact .inr (.inl e)
    · exact .inr (.inr (.inl e))
    · exact .inr (.inr (.inr (.inl e)))
    · exact .inr (.inr (.inr (.inr (.inl (hv g e hlt)))))
    · exact .inr (.inr (.inr (.inr (.inr (.inl e)))))
    · exact .inr (.inr (.inr (.inr (.inr (.inr e)))))
  have hG : ∀ g, g < W.heap.size → u1.ownBlock = some g → OwZ B b p2 q u1 u2 u3 g := fun g _ e => .inr (.inr (.inr (.inr (.inl e))))
  have hq : OwZ B b p2 q u1 u2 u3 q := .inr (.inr (.inr (.inl rfl)))
  have od : ∀ g, v2.ownBlock = some g → g ≠ b ∧ g ≠ p2 ∧ g ≠ q := fun g e => by
    by_cases hlt : g < W.heap.size
    · exact h.d g (.inl (hv g e hlt))
    · omega
  refine ⟨(rq2.cell 0).trans rfl, rq2.free 0, { h with
    rp := (h.rp.upon hu fun e => (h.d b (.inl e)).1 rfl).upon hu2 h.nb.2.1
    r2 := (h.r2.upon hu fun e => (h.d p2 (.inl e)).2.1 rfl).upon hu2 h.nb.2.2
    rq := rq2.set 0 v2
    o1 := ?_
    o2 := owns_upon (owns_upon h.o2 hu fun g hg e => h.d12 g e hg) hu2 fun g hg e => (h.d g (.inr (.inl hg))).2.2 e
    o3 := owns_upon (owns_upon h.o3 hu fun g hg e => h.d13 g e hg) hu2 fun g hg e => (h.d g (.inr (.inr hg))).2.2 e
    i1 := ?_
    i3 := fun y hy => zmove (h.i3 y hy) hZ hu hG hq lq 0
    d := fun g e => by
      rcases e with e | e | e
      · exact od g e
      · exact h.d g (.inr (.inl e))
      · exact h.d g (.inr (.inr e))
    d12 := fun g e e2 => h.d12 g (hv g e (own_lt h.o2 e2)) e2
    d13 := fun g e e2 => h.d13 g (hv g e (own_lt h.o3 e2)) e2
    be := (h.be.trans (hu.belowB h.lt fun g e => (own_ge h.o1 g e).1)).trans (hu2.belowB (Nat.le_trans h.lt hu.size) fun g e => by rw [e]; exact h.bq) }⟩
  · rw [List.length_append, List.flatMap_append, show ([(f, sv)] : List (PFn × Value)).flatMap fnC = fnC (f, sv) by simp]
    exact owns_upon ho hu2 fun g hg e => (od g hg).2.2 e
  · intro y hy
    rcases List.mem_append.1 hy with hy | hy
    · exact zmove (h.i1 y hy) hZ hu hG hq lq 0
    · obtain rfl := List.mem_singleton.1 hy
      exact zmove hn hZ hu hG hq lq 0
theorem OwS.fm {W w2 : World} {v2 sv : Value} {m : PFm} (h : OwS B n0 b p2 q r1 r2 u1 u2 u3 fs Q ms W) (hn : rdAt (OwZ B b p2 q u1 u2 u3) W sv m.2.2.2.length (intL m.2.2.2))
    (ho : w2.ownsRow B 56 4 v2 (ms.length + 1) (ms.flatMap fmC ++ fmC (m, sv))) (hg : W.grownBy w2 u3.ownBlock) (hb2 : v2.ownBlock = u3.ownBlock ∨ v2.ownBlock = some W.heap.size) :
    w2.cell? ⟨q, 2, none⟩ = some u3 ∧ w2.frozen? ⟨q, 2, none⟩ = false ∧ OwS B n0 b p2 q r1 r2 u1 u2 v2 fs Q (ms ++ [(m, sv)]) (w2.setCell ⟨q, 2, none⟩ v2) := by
  have hu : Upon (fun g => u3.ownBlock = some g) W w2 := ⟨hg.os, hg.tape, hg.output, hg.size, fun k hk h => hg.block k hk fun e => h e.symm⟩
  have hu2 : Upon (fun g => g = q) w2 (w2.setCell ⟨q, 2, none⟩ v2) := Upon.setCell _ _ rfl
  have lb := h.rp.lt; have l2 := h.r2.lt; have lq := h.rq.lt
  have rq2 := h.rq.upon hu fun e => (h.d q (.inr (.inr e))).2.2 rfl
  have hv : ∀ g, v2.ownBlock = some g → (g < W.heap.size → u3.ownBlock = some g) := fun g e hlt => by
    rcases hb2 with hb | hb
    · exact hb ▸ e
    · rw [hb] at e; cases e; omega
  have hZ : ∀ g, g < W.heap.size → OwZ B b p2 q u1 u2 v2 g → OwZ B b p2 q u1 u2 u3 g := fun g hlt e => by
    rcases e with e | e | e | e | e | e | e
    · exact .inl e
    · exact .inr (.inl e)
    · exact .inr (.inr (.inl e))
    · exact .inr (.inr (.inr (.inl e)))
    · exact .inr (.inr (.inr (.inr (.inl e))))
    · exact .inr (.inr (.inr (.inr (.inr (.inl e)))))
    · exact .inr (.inr (.inr (.inr (.inr (.inr (hv g e hlt))))))
  have hG : ∀ g, g < W.heap.size → u3.ownBlock = some g → OwZ B b p2 q u1 u2 u3 g := fun g _ e => .inr (.inr (.inr (.inr (.inr (.inr e)))))
  have hq : OwZ B b p2 q u1 u2 u3 q := .inr (.inr (.inr (.inl rfl)))
  have od : ∀ g, v2.ownBlock = some g → g ≠ b ∧ g ≠ p2 ∧ g ≠ q := fun g e => by
    by_cases hlt : g < W.heap.size
    · exact h.d g (.inr (.inr (hv g e hlt)))
    · omega
  refine ⟨(rq2.cell 2).trans rfl, rq2.free 2, { h with
    rp := (h.rp.upon hu fun e => (h.d b (.inr (.inr e))).1 rfl).upon hu2 h.nb.2.1
    r2 := (h.r2.upon hu fun e => (h.d p2 (.inr (.inr e))).2.1 rfl).upon hu2 h.nb.2.2
    rq := rq2.set 2 v2
    o1 := owns_upon (owns_upon h.o1 hu fun g hg e => h.d13 g hg e) hu2 fun g hg e => (h.d g (.inl hg)).2.2 e
    o2 := owns_upon (owns_upon h.o2 hu fun g hg e => h.d23 g hg e) hu2 fun g hg e => (h.d g (.inr (.inl hg))).2.2 e
    o3 := ?_
    i1 := fun y hy => zmove (h.i1 y hy) hZ hu hG hq lq 2
    i3 := ?_
    d := fun g e => by
      rcases e with e | e | e
      · exact h.d g (.inl e)
      · exact h.d g (.inr (.inl e))
      · exact od g e
    d13 := fun g e e2 => h.d13 g e (hv g e2 (own_lt h.o1 e))
    d23 := fun g e e2 => h.d23 g e (hv g e2 (own_lt h.o2 e))
    be := (h.be.trans (hu.belowB h.lt fun g e => (own_ge h.o3 g e).1)).trans (hu2.belowB (Nat.le_trans h.lt hu.size) fun g e => by rw [e]; exact h.bq) }⟩
  · rw [List.length_append, List.flatMap_append, show ([(m, sv)] : List (PFm × Value)).flatMap fmC = fmC (m, sv) by simp]
    exact owns_upon ho hu2 fun g hg e => (od g hg).2.2 e
  · intro y hy
    rcases List.mem_append.1 hy with hy | hy
    · exact zmove (h.i3 y hy) hZ hu hG hq lq 2
    · obtain rfl := List.mem_singleton.1 hy
      exact zmove hn hZ hu hG hq lq 2
end
end Go.Proofs.YtlfbfnkmbceejaaDoor
