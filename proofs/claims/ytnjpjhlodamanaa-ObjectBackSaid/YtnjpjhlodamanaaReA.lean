/-
  The document's answers on an object alone (stockpotref03: Head, Words, Lay).
  Conditions: as each states.
-/
import Derived.Test.YtnjpjhlodamanaaRefMay
import Derived.Test.YtnjpjhlodamanaaRefCut
import Derived.Test.YtnjpjhlodamanaaObE
import Derived.Outline
namespace Go.Proofs.Ytnjpjhlodamanaa
open Go.ChangeShapes Go.WideShapes Go.ChangeAt Go.RowKit
set_option linter.unusedVariables false
set_option linter.unusedSimpArgs false
set_option maxRecDepth 100000

section
variable {P : Program}
/-- append onto a row of the call's own, of whatever slice (nil and empty ones too), in a walk. -/
theorem wpList_append_any {w : World} {ops : Array Oper} {rest : List Oper} {o : Oper} {a : Act} {Q : Exit → Act → World → Prop} (hgd : o.guard = none) (s x : Operand) (t : TypeId)
    (ho : o.op = .call { callee := .builtin .append, args := #[s, x], argTypes := #[t, t] })
    (base : Nat) (e : TypeId) (i : TypeInfo) (z : Value) (size bytes : Nat) (ht : P.underlying t = some (.slice e)) (hi : P.info? e = some i) (hz : i.zero = some z)
    (hsize : i.size = size) (hby : i.bytes = bytes) (hzs : z.cells.size = size) (hsz : 0 < size)
    (v : Value) (n : Nat) (xs : List Value) (hs : a.eval s = v) (hown : w.ownsRow base e size v n xs)
    (xa : Option Addr) (m c : Nat) (news : List Value) (hx : a.eval x = .slice xa m c) (hl : news.length = m * size) (hsrc : m = 0 ∨ ∃ ad, xa = some ad ∧ ∀ j u, news[j]? = some u → w.cell? (ad.add j) = some u) (h1 : ∀ u ∈ news, u.oneCell' = true)
    (h63 : n + m ≤ maxLen) (hbytes : (n + m) * bytes ≤ 140737488355328) (hbase : base ≤ w.heap.size)
    (h : ∀ v' w', w'.ownsRow base e size v' (n + m) (xs ++ news) → w.grownBy w' v.ownBlock → (v'.ownBlock = v.ownBlock ∨ v'.ownBlock = some w.heap.size) → wpList P ops Q rest (a.put o.dst v') w') : wpList P ops Q (o :: rest) a w :=
  wpList_plain hgd fun K hK => by
    obtain ⟨v', w', hr, h2, h3, h4⟩ := run_append_any (P := P) w t o.type base e i z size bytes ht hi hz hsize hby hzs hsz v n xs hown xa m c news hl hsrc h1 h63 hbytes hbase
    unfold Oper.wp execOp
    simp only [ho, resolve, invoke, builtin, Sem.run_bind, Sem.run_pure, Result.andThen_ok, List.map_toArray, List.map_cons, List.map_nil, hs, hx, hr]
    exact hK _ _ (h v' w' h2 h3 h4)
end

set_option maxHeartbeats 2000000 in
theorem reWords_any (k t : Int) (a : Option Addr) (nf c : Nat) (s : ByteArray) (w : World) :
    Calls Try.prog 11 #[obj k t a nf c s] w fun e w' => e = .returned (.int .i64 (wordsR k t nf s.size : Nat)) ∧ Below w.heap.size w w' := by
  cases h : headR k t nf s.size with
  | true =>
    have h' := h
    simp only [headR, Bool.and_eq_true] at h'
    have hb := mayH_bounds h'.2
    have HM := Lib.hid (refMay_any k t a nf c s)
    rw [h] at HM
    by_cases hk : k = 2
    · subst hk
      have e : sizeH 2 nf s.size = s.size := rfl
      have e1 : wordsR 2 t nf s.size = 1 + (s.size + 7) / 8 := by rw [wordsR, if_pos h]; rfl
      rw [e] at hb
      rw [e1]
      clear e e1 h h'
      go_enter Try.func11, Try.ntmps11
      go_wp2_with fail
      refine (HM.out _).mono ?_
      rintro e w1 ⟨rfl, b1⟩
      have hc := (bcell b1).1 w.heap.size
      have hz := b1.size
      simp at hz
      have hz1 : w.heap.size < w1.heap.size := by omega
      have HB := Lib.hid (bl_call (bl_alloc (Below.refl _ _) _) b1)
      have c0 := hc 0 (by simp)
      have c1 := hc 1 (by simp)
      have c2 := hc 2 (by simp)
      have c3 := hc 3 (by simp)
      clear hc b1
      simp [go_sem] at c0 c1 c2 c3
      go_wp2
      go_ret
      exact ⟨ret_int (by omega), HB.out⟩
    · have e : sizeH k nf s.size = nf := by simp [sizeH, hk]
      have e1 : wordsR k t nf s.size = 1 + nf := by rw [wordsR, if_pos h, e]; simp [longH, hk]
      rw [e] at hb
      rw [e1]
      have hkb : (k == 2) = false := by simpa using hk
      clear e e1 h h' hk
      go_enter Try.func11, Try.ntmps11
      go_wp2_with fail
      refine (HM.out _).mono ?_
      rintro e w1 ⟨rfl, b1⟩
      have hc := (bcell b1).1 w.heap.size
      have hz := b1.size
      simp at hz
      have hz1 : w.heap.size < w1.heap.size := by omega
      have HB := Lib.hid (bl_call (bl_alloc (Below.refl _ _) _) b1)
      have c0 := hc 0 (by simp)
      have c1 := hc 1 (by simp)
      have c2 := hc 2 (by simp)
      have c3 := hc 3 (by simp)
      clear hc b1
      simp [go_sem] at c0 c1 c2 c3
      go_wp2
      go_ret
      exact ⟨ret_int (by omega), HB.out⟩
  | false =>
    have e1 : wordsR k t nf s.size = 0 := by rw [wordsR, if_neg (by rw [h]; decide)]
    rw [e1]
    have HM := Lib.hid (refMay_any k t a nf c s)
    rw [h] at HM
    clear h e1
    go_enter Try.func11, Try.ntmps11
    go_wp2_with fail
    refine (HM.out _).mono ?_
    rintro e w1 ⟨rfl, b1⟩
    have HB := Lib.hid (bl_call (bl_alloc (Below.refl _ _) _) b1)
    clear b1
    go_wp2
    go_ret
    exact ⟨rfl, HB.out⟩
end Go.Proofs.Ytnjpjhlodamanaa
