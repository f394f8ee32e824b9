/-
  Proved of the Go function ObjectTells: it returns true for every argument (how many words any object takes, its head; whether any heap in any region may be, all its objects, the one at any word). Conditions: none.
-/
import Derived.Test.YtejbblhlbilpnaaZTellO
import Derived.Deep.RegionHeld3
import Derived.Deep.DeepCutAuto
import Derived.Deep.CutBlock
namespace Go.Proofs.Ytejbblhlbilpnaa.objectTells
set_option linter.unusedVariables false
set_option linter.unusedSimpArgs false
open Go.ChangeShapes Go.WideShapes Go.ChangeAt Go.RowKit
set_option maxRecDepth 100000

theorem own : ownKnob Try.prog.godebug = none := by kernel_rfl
theorem laidOut : laidOutB Try.prog = true := by kernel_rfl

theorem wf_fitW {x : Int} (h : (Lit.int .u64 x).wf = true) : fitW x := by
  simp [Lit.wf, IntKind.min, IntKind.max, IntKind.signed, IntKind.bits] at h
  unfold fitW
  omega

theorem large_to (a : Option Addr) (n c : Nat) (z0 z1 z2 z3 : Int) (w : World) {b : Bool} (hb : decide (400 < n) = b) :
    Calls Try.prog 8 #[.agg #[.slice a n c, .int .i64 z0, .int .i64 z1, .int .i64 z2, .int .i64 z3]] w fun e w' => e = .returned (.bool b) ∧ Below w.heap.size w w' := by
  subst hb
  exact large_any a n c z0 z1 z2 z3 w
theorem long_to (k t : Int) (a : Option Addr) (nf c : Nat) (s : ByteArray) (w : World) {b : Bool} (hb : decide (600 < nf ∨ 800 < s.size) = b) :
    Calls Try.prog 9 #[obj k t a nf c s] w fun e w' => e = .returned (.bool b) ∧ Below w.heap.size w w' := by
  subst hb
  exact long_any k t a nf c s w

/-- What lies around while both sides are asked. -/
structure St (w : World) (p p2 : Nat) (F G : Nat → Prop) (A : Ar) (rows : List (Nat × TypeId × List Value)) (rds : List (Value × Nat × List Value)) (W : World) : Prop where
  hb : Below w.heap.size w W
  ha : Held W p F A
  hg : RHeld W p2 G A
  row : ∀ (i : Nat) (r : Nat × TypeId × List Value), rows[i]? = some r → rowAt W r.1 r.2.1 r.2.2
  rd : ∀ (i : Nat) (r : Value × Nat × List Value), rds[i]? = some r → readsAt W r.1 r.2.1 r.2.2 ∧ (r.2.1 = 0 ∨ 0 < r.2.2.length)
theorem St.on {w W W' : World} {p p2 : Nat} {F G : Nat → Prop} {A : Ar} {rows : List (Nat × TypeId × List Value)} {rds : List (Value × Nat × List Value)} (h : St w p p2 F G A rows rds W) (hb : Below W.heap.size W W') : St w p p2 F G A rows rds W' :=
  ⟨bl_call h.hb hb, h.ha.below hb, h.hg.upon (S := fun _ => False) (Upon.of_below hb) fun _ _ h => h, fun i r hr => (h.row i r hr).below hb (h.row i r hr).lt, fun i r hr => ⟨(h.rd i r hr).1.below (h.rd i r hr).2 hb, (h.rd i r hr).2⟩⟩
theorem get_snoc {α : Type} {l : List α} {x r : α} {i : Nat} (h : (l ++ [x])[i]? = some r) : l[i]? = some r ∨ r = x := by
  by_cases hi : i < l.length
  · rw [List.getElem?_append_left hi] at h; exact .inl h
  · rw [List.getElem?_append_right (by omega)] at h
    cases hj : i - l.length with
    | zero => rw [hj] at h; exact .inr (by simpa using h.symm)
    | succ j => rw [hj] at h; simp at h
theorem St.box {w W : World} {p p2 : Nat} {F G : Nat → Prop} {A : Ar} {rows : List (Nat × TypeId × List Value)} {rds : List (Value × Nat × List Value)} (h : St w p p2 F G A rows rds W) (b : Nat) (hbs : b = W.heap.size) (T : TypeId) (cs : List Value) : St w p p2 F G A (rows ++ [(b, T, cs)]) rds (W.alloc (.cells ⟨cs⟩ T)) := by
  subst hbs
  have h' := h.on (Below.alloc (Below.refl W.heap.size W) (Nat.le_refl _) (.cells ⟨cs⟩ T))
  refine ⟨h'.hb, h'.ha, h'.hg, fun i r hr => ?_, h'.rd⟩
  rcases get_snoc hr with hr | rfl
  · exact h'.row i r hr
  · exact rowAt.made _ _ _
theorem St.read {w W : World} {p p2 : Nat} {F G : Nat → Prop} {A : Ar} {rows : List (Nat × TypeId × List Value)} {rds : List (Value × Nat × List Value)} (h : St w p p2 F G A rows rds W) {v : Value} {n : Nat} {cs : List Value} (hr : readsAt W v n cs) (h0 : n = 0 ∨ 0 < cs.length) : St w p p2 F G A rows (rds ++ [(v, n, cs)]) W := by
  refine ⟨h.hb, h.ha, h.hg, h.row, fun i r hi => ?_⟩
  rcases get_snoc hi with hi | rfl
  · exact h.rd i r hi
  · exact ⟨hr, h0⟩
theorem nil_or (l : List Int) (f : Int → Value) : l.length = 0 ∨ 0 < (l.map f).length := by cases l <;> simp
theorem St.start {w W : World} {p p2 : Nat} {F G : Nat → Prop} {A : Ar} (hb : Below w.heap.size w W) (ha : Held W p F A) (hg : RHeld W p2 G A) : St w p p2 F G A [] [] W := ⟨hb, ha, hg, fun i r h => by simp at h, fun i r h => by simp at h⟩
theorem St.old {w W : World} {p p2 : Nat} {F G : Nat → Prop} {A : Ar} {rows : List (Nat × TypeId × List Value)} {rds : List (Value × Nat × List Value)} (h : St w p p2 F G A rows rds W) {b : Nat} {T : TypeId} {cs : List Value} (hr : rowAt W b T cs) : St w p p2 F G A (rows ++ [(b, T, cs)]) rds W := by
  refine ⟨h.hb, h.ha, h.hg, fun i r hi => ?_, h.rd⟩
  rcases get_snoc hi with hi | rfl
  · exact h.row i r hi
  · exact hr
theorem reGet_st {w : World} {p : Nat} {G : Nat → Prop} {A : Ar} (h : RHeld w p G A) (base half space top x : Int) (hx : fitW x) :
    Calls Try.prog 15 #[.pointer (some ⟨p, 0, none⟩), heapV base half space top, .int .u64 x] w fun e w' => ∃ a c, e = .returned (readV (orOb (A.getOb base half space top x)).kind (orOb (A.getOb base half space top x)).tag a (orOb (A.getOb base half space top x)).fs.length c ⟨(orOb (A.getOb base half space top x)).tx.toArray⟩ (A.getOb base half space top x).isSome) ∧
      readsAt w' (.slice a (orOb (A.getOb base half space top x)).fs.length c) (orOb (A.getOb base half space top x)).fs.length (wordsL (orOb (A.getOb base half space top x)).fs) ∧ Below w.heap.size w w' := by
  obtain ⟨bw, rv, h, _⟩ := h
  exact reGet_tell h base half space top x hx
theorem reAll_st {w : World} {p : Nat} {G : Nat → Prop} {A : Ar} (h : RHeld w p G A) (base half space top : Int) :
    Calls Try.prog 17 #[.pointer (some ⟨p, 0, none⟩), heapV base half space top] w fun e w' =>
      ∃ a c, e = .returned (placesV a (A.placesI base half space top).length c (A.objs base half space top).isSome) ∧ readsAt w' (.slice a (A.placesI base half space top).length c) (A.placesI base half space top).length (intsL (A.placesI base half space top)) ∧ Below w.heap.size w w' := by
  obtain ⟨bw, rv, h, _⟩ := h
  exact reAll_tell h base half space top

set_option maxHeartbeats 4000000 in
theorem large (sa : Option Addr) (sc n : Nat) (z0 z1 z2 z3 k t : Int) (oa : Option Addr) (nf oc : Nat) (s : ByteArray) (x : Int) (w : World) (hn : 400 < n) :
    Calls Try.prog 3 #[.agg #[.slice sa n sc, .int .i64 z0, .int .i64 z1, .int .i64 z2, .int .i64 z3], obj k t oa nf oc s, .int .u64 x] w fun e w' => e = .returned (.bool true) ∧ Below w.heap.size w w' := by
  go_enter Try.func3, Try.ntmps3
  go_wp2_with fail
  refine (large_to _ _ _ _ _ _ _ _ (b := true) (decide_eq_true hn)).mono ?_
  rintro e w1 ⟨rfl, b1⟩
  have HB := Lib.hid (bl_call (bl_alloc (bl_alloc (Below.refl w.heap.size w) _) _) b1)
  clear b1
  go_wp2_with fail
  refine (wakes_any _).mono ?_
  rintro e w2 ⟨rfl, b2⟩
  have HB2 := Lib.hid (bl_call HB.out b2)
  clear b2
  go_wp2_with fail
  go_ret
  exact ⟨rfl, HB2.out⟩

set_option maxHeartbeats 4000000 in
theorem long (sa : Option Addr) (sc n : Nat) (z0 z1 z2 z3 k t : Int) (oa : Option Addr) (nf oc : Nat) (s : ByteArray) (x : Int) (w : World) (hn : n ≤ 400) (hl : 600 < nf ∨ 800 < s.size) :
    Calls Try.prog 3 #[.agg #[.slice sa n sc, .int .i64 z0, .int .i64 z1, .int .i64 z2, .int .i64 z3], obj k t oa nf oc s, .int .u64 x] w fun e w' => e = .returned (.bool true) ∧ Below w.heap.size w w' := by
  have HL := Lib.hid (decide_eq_true hl)
  clear hl
  go_enter Try.func3, Try.ntmps3
  go_wp2_with fail
  refine (large_to _ _ _ _ _ _ _ _ (b := false) (decide_eq_false (by omega))).mono ?_
  rintro e w1 ⟨rfl, b1⟩
  have hs1 := b1.size
  simp at hs1
  have ro : rowAt w1 (w.heap.size + 1) 28 [.int .i64 k, .int .i64 t, .slice oa nf oc, .string s] := (rowAt.made_at (w := w.alloc _) _ _ (by simp)).below b1 (by simp <;> omega)
  have c0 : w1.cell? ⟨w.heap.size + 1, 0, none⟩ = some (.int .i64 k) := (ro.cell 0).trans rfl
  have c1 : w1.cell? ⟨w.heap.size + 1, 1, none⟩ = some (.int .i64 t) := (ro.cell 1).trans rfl
  have c2 : w1.cell? ⟨w.heap.size + 1, 2, none⟩ = some (.slice oa nf oc) := (ro.cell 2).trans rfl
  have c3 : w1.cell? ⟨w.heap.size + 1, 3, none⟩ = some (.string s) := (ro.cell 3).trans rfl
  have HB := Lib.hid (bl_call (bl_alloc (bl_alloc (Below.refl w.heap.size w) _) _) b1)
  clear b1 ro
  go_wp2_with fail
  refine (long_to _ _ _ _ _ _ _ HL.out).mono ?_
  rintro e w2 ⟨rfl, b2⟩
  have HB2 := Lib.hid (bl_call HB.out b2)
  clear b2
  go_wp2_with fail
  refine (wakes_any _).mono ?_
  rintro e w3 ⟨rfl, b3⟩
  have HB3 := Lib.hid (bl_call HB2.out b3)
  clear b3
  go_wp2_with fail
  go_ret
  exact ⟨rfl, HB3.out⟩

theorem good_to {w : World} {p : Nat} {F : Nat → Prop} {A : Ar} (hA : Held w p F A) {base half space top : Int} {b : Bool} (hb : (A.objs base half space top).isSome = b) :
    Calls Try.prog 24 #[.pointer (some ⟨p, 0, none⟩), heapV base half space top] w fun e w' => e = .returned (.bool b) ∧ Below w.heap.size w w' := by
  subst hb
  exact good_any hA base half space top
theorem set_three (A : Ar) (i x : Int) : (A.set 3 i x).ws.take 3 = A.ws.take 3 ∧ (A.set 3 i x).rs = A.rs := by
  unfold Ar.set
  split
  · rename_i h
    have h0 : 0 ≤ i := by
      unfold Ar.inB at h
      split at h
      · simp at h; exact h.1
      · cases h
    refine ⟨?_, rfl⟩
    show (A.ws.set (3 + i).toNat x).take 3 = _
    rw [List.take_set_of_le (by omega)]
  · exact ⟨rfl, rfl⟩
theorem puts_three : ∀ (l : List Int) (A : Ar) (q : Int), (A.puts 3 q l).ws.take 3 = A.ws.take 3 ∧ (A.puts 3 q l).rs = A.rs
  | [], _, _ => ⟨rfl, rfl⟩
  | x :: l, A, q => by
    obtain ⟨h1, h2⟩ := puts_three l (A.set 3 q x) (q + 1)
    obtain ⟨h3, h4⟩ := set_three A q x
    exact ⟨h1.trans h3, h2.trans h4⟩
theorem laid_first (ws : List Int) : (Ar.laid ws).region 0 = [0, 0, 0] ∧ (Ar.laid ws).there 0 = true ∧ (Ar.laid ws).find 3 = some (max 1 ws.length) := by
  obtain ⟨h1, h2⟩ := puts_three ws (Ar.laid0 ws.length) 0
  rw [(laid_two ws.length).2.2] at h1 h2
  have h1 : (Ar.laid ws).ws.take 3 = [0, 0, 0] := by
    unfold Ar.laid
    rw [(laid_two ws.length).2.2, h1]
    show List.take 3 (List.replicate (ws.length + 10) (0 : Int)) = _
    rw [List.take_replicate]
    have : min 3 (ws.length + 10) = 3 := by omega
    rw [this]
    rfl
  have h2 : (Ar.laid ws).rs = [(0, 3), (3, max 1 ws.length)] := by
    unfold Ar.laid
    rw [(laid_two ws.length).2.2, h2]
  refine ⟨?_, ?_, ?_⟩
  · simp [Ar.region, Ar.find, h2, findR, h1]
  · simp [Ar.there, Ar.find, h2, findR]
  · simp [Ar.find, h2, findR]

theorem st_cells {w w' : World} {p p2 : Nat} {F G : Nat → Prop} {A : Ar} {B0 B1 B2 B3 B4 B5 B6 : Nat} {k t half space top : Int} {oa ob ga qa la pa : Option Addr} {oc od gc qc lc pc : Nat} {xs L : List Int} {s : ByteArray} {O : Ob} {Y Z : Bool}
    (h : St w p p2 F G A [(B0, 28, [.int .i64 k, .int .i64 t, .slice oa xs.length oc, .string s]), (B1, 36, [.pointer (some ⟨p, 0, none⟩), .pointer (some ⟨p2, 0, none⟩)]), (B2, 24, [.int .i64 3, .int .i64 half, .int .i64 space, .int .i64 top]), (B3, 28, [.int .i64 k, .int .i64 t, .slice ob xs.length od, .string s]), (B4, 28, [.int .i64 O.kind, .int .i64 O.tag, .slice ga O.fs.length gc, .string ⟨O.tx.toArray⟩]), (B5, 45, [.int .i64 O.kind, .int .i64 O.tag, .slice qa O.fs.length qc, .string ⟨O.tx.toArray⟩, .bool Y]), (B6, 51, [.slice pa L.length pc, .bool Z])] [(.slice oa xs.length oc, xs.length, wordsL xs), (.slice ob xs.length od, xs.length, wordsL xs), (.slice ga O.fs.length gc, O.fs.length, wordsL O.fs), (.slice qa O.fs.length qc, O.fs.length, wordsL O.fs), (.slice la L.length lc, L.length, intsL L), (.slice pa L.length pc, L.length, intsL L)] w') :
    w'.cell? ⟨B0, 0, none⟩ = some (.int .i64 k) ∧ w'.cell? ⟨B0, 1, none⟩ = some (.int .i64 t) ∧ w'.cell? ⟨B0, 2, none⟩ = some (.slice oa xs.length oc) ∧ w'.cell? ⟨B0, 3, none⟩ = some (.string s) ∧ w'.cell? ⟨B1, 0, none⟩ = some (.pointer (some ⟨p, 0, none⟩)) ∧ w'.cell? ⟨B2, 0, none⟩ = some (.int .i64 3) ∧ w'.cell? ⟨B2, 1, none⟩ = some (.int .i64 half) ∧ w'.cell? ⟨B2, 2, none⟩ = some (.int .i64 space) ∧ w'.cell? ⟨B2, 3, none⟩ = some (.int .i64 top) ∧ w'.cell? ⟨B3, 0, none⟩ = some (.int .i64 k) ∧ w'.cell? ⟨B3, 1, none⟩ = some (.int .i64 t) ∧ w'.cell? ⟨B3, 2, none⟩ = some (.slice ob xs.length od) ∧ w'.cell? ⟨B3, 3, none⟩ = some (.string s) ∧ w'.cell? ⟨B4, 0, none⟩ = some (.int .i64 O.kind) ∧ w'.cell? ⟨B4, 1, none⟩ = some (.int .i64 O.tag) ∧ w'.cell? ⟨B4, 2, none⟩ = some (.slice ga O.fs.length gc) ∧ w'.cell? ⟨B4, 3, none⟩ = some (.string ⟨O.tx.toArray⟩) ∧ w'.cell? ⟨B5, 0, none⟩ = some (.int .i64 O.kind) ∧ w'.cell? ⟨B5, 1, none⟩ = some (.int .i64 O.tag) ∧ w'.cell? ⟨B5, 2, none⟩ = some (.slice qa O.fs.length qc) ∧ w'.cell? ⟨B5, 3, none⟩ = some (.string ⟨O.tx.toArray⟩) ∧ w'.cell? ⟨B5, 4, none⟩ = some (.bool Y) ∧ w'.cell? ⟨B6, 0, none⟩ = some (.slice pa L.length pc) ∧ w'.cell? ⟨B6, 1, none⟩ = some (.bool Z) :=
  ⟨((h.row 0 _ rfl).cell 0).trans rfl, ((h.row 0 _ rfl).cell 1).trans rfl, ((h.row 0 _ rfl).cell 2).trans rfl, ((h.row 0 _ rfl).cell 3).trans rfl, ((h.row 1 _ rfl).cell 0).trans rfl, ((h.row 2 _ rfl).cell 0).trans rfl, ((h.row 2 _ rfl).cell 1).trans rfl, ((h.row 2 _ rfl).cell 2).trans rfl, ((h.row 2 _ rfl).cell 3).trans rfl, ((h.row 3 _ rfl).cell 0).trans rfl, ((h.row 3 _ rfl).cell 1).trans rfl, ((h.row 3 _ rfl).cell 2).trans rfl, ((h.row 3 _ rfl).cell 3).trans rfl, ((h.row 4 _ rfl).cell 0).trans rfl, ((h.row 4 _ rfl).cell 1).trans rfl, ((h.row 4 _ rfl).cell 2).trans rfl, ((h.row 4 _ rfl).cell 3).trans rfl, ((h.row 5 _ rfl).cell 0).trans rfl, ((h.row 5 _ rfl).cell 1).trans rfl, ((h.row 5 _ rfl).cell 2).trans rfl, ((h.row 5 _ rfl).cell 3).trans rfl, ((h.row 5 _ rfl).cell 4).trans rfl, ((h.row 6 _ rfl).cell 0).trans rfl, ((h.row 6 _ rfl).cell 1).trans rfl⟩

set_option maxHeartbeats 16000000 in
theorem short (sa : Option Addr) (sc : Nat) (ws : List Int) (z0 half space top k t : Int) (oa : Option Addr) (oc : Nat) (xs : List Int) (s : ByteArray) (x : Int) (w : World) (hn : ws.length ≤ 400) (hl : xs.length ≤ 600 ∧ s.size ≤ 800)
    (hr : readsAt w (.slice sa ws.length sc) ws.length (wordsL ws)) (hw : ∀ y ∈ ws, fitW y) (hro : readsAt w (.slice oa xs.length oc) xs.length (wordsL xs)) (hx : fitW x) :
    Calls Try.prog 3 #[.agg #[.slice sa ws.length sc, .int .i64 z0, .int .i64 half, .int .i64 space, .int .i64 top], obj k t oa xs.length oc s, .int .u64 x] w fun e w' => e = .returned (.bool true) ∧ Below w.heap.size w w' := by
  have hnil : ∀ l : List Int, l.length = 0 ∨ 0 < (wordsL l).length := fun l => by cases l <;> simp
  have HLO : Hid (decide (600 < xs.length ∨ 800 < s.size) = false) := decide_eq_false (by omega)
  have HRO := Lib.hid (fun w' (hb : Below w.heap.size w w') => hro.below (hnil xs) hb)
  have HLAY := Lib.hid (fun w' (hb : Below w.heap.size w w') => lay_any w' _ ws (hr.below (hnil ws) hb) hw (by omega))
  have HX := Lib.hid hx
  have hlx := hl.1
  clear hr hw hro hl hx hnil
  go_enter Try.func3, Try.ntmps3
  go_wp2_with fail
  refine (large_to _ _ _ _ _ _ _ _ (b := false) (decide_eq_false (by omega))).mono ?_
  rintro e w1 ⟨rfl, b1⟩
  have hs1 := b1.size
  simp at hs1
  have rr : rowAt w1 w.heap.size 26 [.slice sa ws.length sc, .int .i64 z0, .int .i64 half, .int .i64 space, .int .i64 top] := ((rowAt.made w _ _).alloc _).below b1 (by simp <;> omega)
  have ro : rowAt w1 (w.heap.size + 1) 28 [.int .i64 k, .int .i64 t, .slice oa xs.length oc, .string s] := (rowAt.made_at (w := w.alloc _) _ _ (by simp)).below b1 (by simp <;> omega)
  have c0 : w1.cell? ⟨w.heap.size + 1, 0, none⟩ = some (.int .i64 k) := (ro.cell 0).trans rfl
  have c1 : w1.cell? ⟨w.heap.size + 1, 1, none⟩ = some (.int .i64 t) := (ro.cell 1).trans rfl
  have c2 : w1.cell? ⟨w.heap.size + 1, 2, none⟩ = some (.slice oa xs.length oc) := (ro.cell 2).trans rfl
  have c3 : w1.cell? ⟨w.heap.size + 1, 3, none⟩ = some (.string s) := (ro.cell 3).trans rfl
  have HB1 := Lib.hid (bl_call (bl_alloc (bl_alloc (Below.refl w.heap.size w) _) _) b1)
  have RR := Lib.hid rr
  have RO := Lib.hid ro
  clear b1 ro rr hs1
  go_wp2_with fail
  refine (long_to _ _ _ _ _ _ _ HLO.out).mono ?_
  rintro e w2 ⟨rfl, b2⟩
  have RR2 := Lib.hid (RR.out.below b2 RR.out.lt)
  have RO2 := Lib.hid (RO.out.below b2 RO.out.lt)
  have d0 : w2.cell? ⟨w.heap.size, 0, none⟩ = some (.slice sa ws.length sc) := (RR2.out.cell 0).trans rfl
  have HB2 := Lib.hid (bl_call HB1.out b2)
  clear b2 c0 c1 c2 c3
  go_wp2_with fail
  refine (HLAY.out _ HB2.out).mono ?_
  rintro e w3 ⟨p, p2, F, G, rfl, hA, hG, hFG, hFB, hGB, b3⟩
  have RR3 := Lib.hid (RR2.out.below b3 RR2.out.lt)
  have RO3 := Lib.hid (RO2.out.below b3 RO2.out.lt)
  have HB3 := Lib.hid (bl_call HB2.out b3)
  have HA3 := Lib.hid hA
  have HG3 := Lib.hid hG
  have m0 : w3.cell? ⟨w.heap.size, 1, none⟩ = some (.int .i64 z0) := (RR3.out.cell 1).trans rfl
  have m1 : w3.cell? ⟨w.heap.size, 2, none⟩ = some (.int .i64 half) := (RR3.out.cell 2).trans rfl
  have m2 : w3.cell? ⟨w.heap.size, 3, none⟩ = some (.int .i64 space) := (RR3.out.cell 3).trans rfl
  have m3 : w3.cell? ⟨w.heap.size, 4, none⟩ = some (.int .i64 top) := (RR3.out.cell 4).trans rfl
  have e0 : w3.cell? ⟨w.heap.size + 1, 0, none⟩ = some (.int .i64 k) := (RO3.out.cell 0).trans rfl
  have e1 : w3.cell? ⟨w.heap.size + 1, 1, none⟩ = some (.int .i64 t) := (RO3.out.cell 1).trans rfl
  have e2 : w3.cell? ⟨w.heap.size + 1, 2, none⟩ = some (.slice oa xs.length oc) := (RO3.out.cell 2).trans rfl
  have e3 : w3.cell? ⟨w.heap.size + 1, 3, none⟩ = some (.string s) := (RO3.out.cell 3).trans rfl
  have lo3 := RO3.out.lt
  have lr3 := RR3.out.lt
  clear hA hG hFG hFB hGB b3 d0
  go_wp2_with fail
  refine (ownObject_any k t oa oc xs s (HRO.out _ ?hb0) (by omega)).mono ?_
  case hb0 => repeat (first | refine bl_set ?_ (by simp; omega) _ | refine bl_alloc ?_ _ | exact HB3.out)
  rintro e w4 ⟨ob, od, rfl, ho4, b4⟩
  have hs4 := b4.size
  simp at hs4
  have HS3 : St w p p2 F G (Ar.laid ws) [(w.heap.size + 1, 28, [.int .i64 k, .int .i64 t, .slice oa xs.length oc, .string s])] [(.slice oa xs.length oc, xs.length, wordsL xs)] w3 := ((St.start HB3.out HA3.out HG3.out).old RO3.out).read (HRO.out _ HB3.out) (nil_or _ _)
  have HS4 := Lib.hid ((((HS3.box w3.heap.size rfl 36 [.pointer (some ⟨p, 0, none⟩), .pointer (some ⟨p2, 0, none⟩)]).box (w3.heap.size + 1) (by simp) 24 [.int .i64 3, .int .i64 half, .int .i64 space, .int .i64 top]).on b4).read (readsAt.of_owns ho4) (nil_or _ _))
  clear HS3 b4 ho4 hs4 m0 m1 m2 m3 e0 e1 e2 e3 lo3 lr3
  go_wp2_with fail
  have HS5 := Lib.hid (HS4.out.box w4.heap.size rfl 28 [.int .i64 k, .int .i64 t, .slice ob xs.length od, .string s])
  refine (ohead_any _ _ _ _ _ _ _).mono ?_
  rintro e w5 ⟨rfl, b5⟩
  have HS5' := Lib.hid (HS5.out.on b5)
  have l1 := (HS5'.out.row 1 _ rfl).lt
  have l2 := (HS5'.out.row 2 _ rfl).lt
  have a0 : w5.cell? ⟨w3.heap.size, 0, none⟩ = some (.pointer (some ⟨p, 0, none⟩)) := ((HS5'.out.row 1 _ rfl).cell 0).trans rfl
  have g0 : w5.cell? ⟨w3.heap.size + 1, 0, none⟩ = some (.int .i64 3) := ((HS5'.out.row 2 _ rfl).cell 0).trans rfl
  have g1 : w5.cell? ⟨w3.heap.size + 1, 1, none⟩ = some (.int .i64 half) := ((HS5'.out.row 2 _ rfl).cell 1).trans rfl
  have g2 : w5.cell? ⟨w3.heap.size + 1, 2, none⟩ = some (.int .i64 space) := ((HS5'.out.row 2 _ rfl).cell 2).trans rfl
  have g3 : w5.cell? ⟨w3.heap.size + 1, 3, none⟩ = some (.int .i64 top) := ((HS5'.out.row 2 _ rfl).cell 3).trans rfl
  clear b5
  have hOl := orOb_len HS5'.out.ha.ok 3 half space top x
  have hLl := places_len HS5'.out.ha.ok 3 half space top
  obtain ⟨Q, hQ⟩ : ∃ Q, (Ar.laid ws).getOb 3 half space top x = Q := ⟨_, rfl⟩
  obtain ⟨S, hS⟩ : ∃ S, (Ar.laid ws).objs 3 half space top = S := ⟨_, rfl⟩
  obtain ⟨L, hL⟩ : ∃ L, (Ar.laid ws).placesI 3 half space top = L := ⟨_, rfl⟩
  go_wp2_with fail
  have HG1 := Lib.hid (get_tell HS5'.out.ha 3 half space top x HX.out)
  rw [hQ] at HG1
  refine (HG1.out).mono ?_
  rintro e w6 ⟨ga, gc, rfl, hrd6, b6⟩
  have HS6 := Lib.hid ((HS5'.out.on b6).read hrd6 (nil_or _ _))
  clear HG1 b6 hrd6
  clear a0 g0 g1 g2 g3 l1 l2
  have l1 : w3.heap.size < _ := (HS6.out.row 1 _ rfl).lt
  have l2 : w3.heap.size + 1 < _ := (HS6.out.row 2 _ rfl).lt
  have a0 : w6.cell? ⟨w3.heap.size, 1, none⟩ = some (.pointer (some ⟨p2, 0, none⟩)) := ((HS6.out.row 1 _ rfl).cell 1).trans rfl
  have g0 : w6.cell? ⟨w3.heap.size + 1, 0, none⟩ = some (.int .i64 3) := ((HS6.out.row 2 _ rfl).cell 0).trans rfl
  have g1 : w6.cell? ⟨w3.heap.size + 1, 1, none⟩ = some (.int .i64 half) := ((HS6.out.row 2 _ rfl).cell 1).trans rfl
  have g2 : w6.cell? ⟨w3.heap.size + 1, 2, none⟩ = some (.int .i64 space) := ((HS6.out.row 2 _ rfl).cell 2).trans rfl
  have g3 : w6.cell? ⟨w3.heap.size + 1, 3, none⟩ = some (.int .i64 top) := ((HS6.out.row 2 _ rfl).cell 3).trans rfl
  obtain ⟨O, hO⟩ : ∃ O, orOb Q = O := ⟨_, rfl⟩
  rw [hO] at HS6
  go_wp2_with fail
  have HS7 := Lib.hid (HS6.out.box w6.heap.size rfl 28 [.int .i64 O.kind, .int .i64 O.tag, .slice ga O.fs.length gc, .string ⟨O.tx.toArray⟩])
  have HG2 := Lib.hid (reGet_st HS7.out.hg 3 half space top x HX.out)
  rw [hQ, hO] at HG2
  refine (HG2.out).mono ?_
  rintro e w7 ⟨qa, qc, rfl, hrd7, b7⟩
  have HS7' := Lib.hid ((HS7.out.on b7).read hrd7 (nil_or _ _))
  clear HG2 b7 hrd7
  clear a0 g0 g1 g2 g3 l1 l2
  have l1 : w3.heap.size < _ := (HS7'.out.row 1 _ rfl).lt
  have l2 : w3.heap.size + 1 < _ := (HS7'.out.row 2 _ rfl).lt
  have a0 : w7.cell? ⟨w3.heap.size, 0, none⟩ = some (.pointer (some ⟨p, 0, none⟩)) := ((HS7'.out.row 1 _ rfl).cell 0).trans rfl
  have g0 : w7.cell? ⟨w3.heap.size + 1, 0, none⟩ = some (.int .i64 3) := ((HS7'.out.row 2 _ rfl).cell 0).trans rfl
  have g1 : w7.cell? ⟨w3.heap.size + 1, 1, none⟩ = some (.int .i64 half) := ((HS7'.out.row 2 _ rfl).cell 1).trans rfl
  have g2 : w7.cell? ⟨w3.heap.size + 1, 2, none⟩ = some (.int .i64 space) := ((HS7'.out.row 2 _ rfl).cell 2).trans rfl
  have g3 : w7.cell? ⟨w3.heap.size + 1, 3, none⟩ = some (.int .i64 top) := ((HS7'.out.row 2 _ rfl).cell 3).trans rfl
  obtain ⟨Y, hY⟩ : ∃ Y, Q.isSome = Y := ⟨_, rfl⟩
  go_wp2_with fail
  have HS8 := Lib.hid (HS7'.out.box w7.heap.size rfl 45 [.int .i64 O.kind, .int .i64 O.tag, .slice qa O.fs.length qc, .string ⟨O.tx.toArray⟩, .bool Y])
  have HG3 := Lib.hid (all_tell HS8.out.ha 3 half space top)
  rw [hS, hL] at HG3
  refine (HG3.out).mono ?_
  rintro e w8 ⟨la, lc, rfl, hrd8, b8⟩
  have HS8' := Lib.hid ((HS8.out.on b8).read hrd8 (nil_or _ _))
  clear HG3 b8 hrd8
  clear a0 g0 g1 g2 g3 l1 l2
  have l1 : w3.heap.size < _ := (HS8'.out.row 1 _ rfl).lt
  have l2 : w3.heap.size + 1 < _ := (HS8'.out.row 2 _ rfl).lt
  have a0 : w8.cell? ⟨w3.heap.size, 1, none⟩ = some (.pointer (some ⟨p2, 0, none⟩)) := ((HS8'.out.row 1 _ rfl).cell 1).trans rfl
  have g0 : w8.cell? ⟨w3.heap.size + 1, 0, none⟩ = some (.int .i64 3) := ((HS8'.out.row 2 _ rfl).cell 0).trans rfl
  have g1 : w8.cell? ⟨w3.heap.size + 1, 1, none⟩ = some (.int .i64 half) := ((HS8'.out.row 2 _ rfl).cell 1).trans rfl
  have g2 : w8.cell? ⟨w3.heap.size + 1, 2, none⟩ = some (.int .i64 space) := ((HS8'.out.row 2 _ rfl).cell 2).trans rfl
  have g3 : w8.cell? ⟨w3.heap.size + 1, 3, none⟩ = some (.int .i64 top) := ((HS8'.out.row 2 _ rfl).cell 3).trans rfl
  obtain ⟨Z, hZ⟩ : ∃ Z, S.isSome = Z := ⟨_, rfl⟩
  go_wp2_with fail
  have HG4 := Lib.hid (reAll_st HS8'.out.hg 3 half space top)
  rw [hS, hL, hZ] at HG4
  refine (HG4.out).mono ?_
  rintro e w9 ⟨pa, pc, rfl, hrd9, b9⟩
  have HS9 := Lib.hid ((HS8'.out.on b9).read hrd9 (nil_or _ _))
  clear HG4 b9 hrd9
  clear a0 g0 g1 g2 g3 l1 l2
  obtain ⟨X, hX⟩ : ∃ X, headR k t xs.length s.size = X := ⟨_, rfl⟩
  obtain ⟨V, hV⟩ : ∃ V, headWR k t xs.length s.size = V := ⟨_, rfl⟩
  have HSZ : Hid (((Ar.laid ws).objs 3 half space top).isSome = Z) := by show _ = _; rw [hS, hZ]
  have HHX := Lib.hid hX
  have HHV := Lib.hid hV
  rw [hQ, hO] at hOl
  rw [hL] at hLl
  clear hQ hS hL hO hY hZ
  go_wp2_with fail
  have HS10 := Lib.hid (HS9.out.box w9.heap.size rfl 51 [.slice pa L.length pc, .bool Z])
  obtain ⟨W, hW⟩ : ∃ W, w9.alloc (.cells #[.slice pa L.length pc, .bool Z] 51) = W := ⟨_, rfl⟩
  obtain ⟨B0, hB0⟩ : ∃ B, w.heap.size + 1 = B := ⟨_, rfl⟩
  obtain ⟨B1, hB1⟩ : ∃ B, w3.heap.size = B := ⟨_, rfl⟩
  obtain ⟨B2, hB2⟩ : ∃ B, B1 + 1 = B := ⟨_, rfl⟩
  obtain ⟨B3, hB3⟩ : ∃ B, w4.heap.size = B := ⟨_, rfl⟩
  obtain ⟨B4, hB4⟩ : ∃ B, w6.heap.size = B := ⟨_, rfl⟩
  obtain ⟨B5, hB5⟩ : ∃ B, w7.heap.size = B := ⟨_, rfl⟩
  obtain ⟨B6, hB6⟩ : ∃ B, w9.heap.size = B := ⟨_, rfl⟩
  have HT : Hid (St w p p2 F G (Ar.laid ws) [(B0, 28, [.int .i64 k, .int .i64 t, .slice oa xs.length oc, .string s]), (B1, 36, [.pointer (some ⟨p, 0, none⟩), .pointer (some ⟨p2, 0, none⟩)]), (B2, 24, [.int .i64 3, .int .i64 half, .int .i64 space, .int .i64 top]), (B3, 28, [.int .i64 k, .int .i64 t, .slice ob xs.length od, .string s]), (B4, 28, [.int .i64 O.kind, .int .i64 O.tag, .slice ga O.fs.length gc, .string ⟨O.tx.toArray⟩]), (B5, 45, [.int .i64 O.kind, .int .i64 O.tag, .slice qa O.fs.length qc, .string ⟨O.tx.toArray⟩, .bool Y]), (B6, 51, [.slice pa L.length pc, .bool Z])] [(.slice oa xs.length oc, xs.length, wordsL xs), (.slice ob xs.length od, xs.length, wordsL xs), (.slice ga O.fs.length gc, O.fs.length, wordsL O.fs), (.slice qa O.fs.length qc, O.fs.length, wordsL O.fs), (.slice la L.length lc, L.length, intsL L), (.slice pa L.length pc, L.length, intsL L)] W) := by
    have h := HS10.out
    rw [hW, hB0, hB1, hB2, hB3, hB4, hB5, hB6] at h
    exact h
  rw [hW, hB0, hB1, hB2, hB3, hB4, hB5, hB6]
  clear hW hB0 hB1 hB2 hB3 hB4 hB5 hB6 HS10 HS9 HS8' HS8 HS7' HS7 HS6 HS5' HS5 HS4 RR RR2 RR3 RO RO2 RO3 HB1 HB2 HB3 HA3 HG3 hX hV
  have HC0 : Hid (St w p p2 F G (Ar.laid ws) [(B0, 28, [.int .i64 k, .int .i64 t, .slice oa xs.length oc, .string s]), (B1, 36, [.pointer (some ⟨p, 0, none⟩), .pointer (some ⟨p2, 0, none⟩)]), (B2, 24, [.int .i64 3, .int .i64 half, .int .i64 space, .int .i64 top]), (B3, 28, [.int .i64 k, .int .i64 t, .slice ob xs.length od, .string s]), (B4, 28, [.int .i64 O.kind, .int .i64 O.tag, .slice ga O.fs.length gc, .string ⟨O.tx.toArray⟩]), (B5, 45, [.int .i64 O.kind, .int .i64 O.tag, .slice qa O.fs.length qc, .string ⟨O.tx.toArray⟩, .bool Y]), (B6, 51, [.slice pa L.length pc, .bool Z])] [(.slice oa xs.length oc, xs.length, wordsL xs), (.slice ob xs.length od, xs.length, wordsL xs), (.slice ga O.fs.length gc, O.fs.length, wordsL O.fs), (.slice qa O.fs.length qc, O.fs.length, wordsL O.fs), (.slice la L.length lc, L.length, intsL L), (.slice pa L.length pc, L.length, intsL L)] W.drew) := HT.out.on (below_draws (Below.refl _ _) 1)
  obtain ⟨N, hN⟩ : ∃ N : Int, ((wordsR k t xs.length s.size : Nat) : Int) = N := ⟨_, rfl⟩
  have HWA : Hid (∀ w', Calls Try.prog 20 #[obj k t ob xs.length od s] w' fun e w'' => e = .returned (.int .i64 N) ∧ Below w'.heap.size w' w'') := fun w' => by rw [← hN]; exact owords_any k t ob xs.length od s w'
  have HWB : Hid (∀ w', Calls Try.prog 21 #[obj k t oa xs.length oc s] w' fun e w'' => e = .returned (.int .i64 N) ∧ Below w'.heap.size w' w'') := fun w' => by rw [← hN]; exact reWords_any k t oa xs.length oc s w'
  have HM : Hid (∀ w', Calls Try.prog 18 #[obj k t oa xs.length oc s] w' fun e w'' => e = .returned (.bool X) ∧ Below w'.heap.size w' w'') := fun w' => by rw [← HHX.out]; exact refMay_any k t oa xs.length oc s w'
  clear hN
  go_cut [133] (fun s133 wx => s133 = .bool false ∧ St w p p2 F G (Ar.laid ws) [(B0, 28, [.int .i64 k, .int .i64 t, .slice oa xs.length oc, .string s]), (B1, 36, [.pointer (some ⟨p, 0, none⟩), .pointer (some ⟨p2, 0, none⟩)]), (B2, 24, [.int .i64 3, .int .i64 half, .int .i64 space, .int .i64 top]), (B3, 28, [.int .i64 k, .int .i64 t, .slice ob xs.length od, .string s]), (B4, 28, [.int .i64 O.kind, .int .i64 O.tag, .slice ga O.fs.length gc, .string ⟨O.tx.toArray⟩]), (B5, 45, [.int .i64 O.kind, .int .i64 O.tag, .slice qa O.fs.length qc, .string ⟨O.tx.toArray⟩, .bool Y]), (B6, 51, [.slice pa L.length pc, .bool Z])] [(.slice oa xs.length oc, xs.length, wordsL xs), (.slice ob xs.length od, xs.length, wordsL xs), (.slice ga O.fs.length gc, O.fs.length, wordsL O.fs), (.slice qa O.fs.length qc, O.fs.length, wordsL O.fs), (.slice la L.length lc, L.length, intsL L), (.slice pa L.length pc, L.length, intsL L)] wx)
  case first =>
    cases X with
    | true =>
      have HHD : Hid (∀ w', Calls Try.prog 19 #[obj k t oa xs.length oc s] w' fun e w'' => e = .returned (.int .u64 V) ∧ Below w'.heap.size w' w'') := fun w' => by
        have hv := HHV.out
        unfold headWR at hv
        rw [if_pos HHX.out] at hv
        rw [← hv]
        exact refHead_any k t oa xs.length oc s HHX.out w'
      refine wp_region_held_drew (S := fun w' => w'.cell? ⟨B0, 0, none⟩ = some (.int .i64 k) ∧ w'.cell? ⟨B0, 1, none⟩ = some (.int .i64 t) ∧ w'.cell? ⟨B0, 2, none⟩ = some (.slice oa xs.length oc) ∧ w'.cell? ⟨B0, 3, none⟩ = some (.string s) ∧ w'.cell? ⟨B1, 0, none⟩ = some (.pointer (some ⟨p, 0, none⟩)) ∧ w'.cell? ⟨B2, 0, none⟩ = some (.int .i64 3) ∧ w'.cell? ⟨B2, 1, none⟩ = some (.int .i64 half) ∧ w'.cell? ⟨B2, 2, none⟩ = some (.int .i64 space) ∧ w'.cell? ⟨B2, 3, none⟩ = some (.int .i64 top) ∧ w'.cell? ⟨B3, 0, none⟩ = some (.int .i64 k) ∧ w'.cell? ⟨B3, 1, none⟩ = some (.int .i64 t) ∧ w'.cell? ⟨B3, 2, none⟩ = some (.slice ob xs.length od) ∧ w'.cell? ⟨B3, 3, none⟩ = some (.string s) ∧ w'.cell? ⟨B4, 0, none⟩ = some (.int .i64 O.kind) ∧ w'.cell? ⟨B4, 1, none⟩ = some (.int .i64 O.tag) ∧ w'.cell? ⟨B4, 2, none⟩ = some (.slice ga O.fs.length gc) ∧ w'.cell? ⟨B4, 3, none⟩ = some (.string ⟨O.tx.toArray⟩) ∧ w'.cell? ⟨B5, 0, none⟩ = some (.int .i64 O.kind) ∧ w'.cell? ⟨B5, 1, none⟩ = some (.int .i64 O.tag) ∧ w'.cell? ⟨B5, 2, none⟩ = some (.slice qa O.fs.length qc) ∧ w'.cell? ⟨B5, 3, none⟩ = some (.string ⟨O.tx.toArray⟩) ∧ w'.cell? ⟨B5, 4, none⟩ = some (.bool Y) ∧ w'.cell? ⟨B6, 0, none⟩ = some (.slice pa L.length pc) ∧ w'.cell? ⟨B6, 1, none⟩ = some (.bool Z)) (by kernel_rfl) (st_cells HC0.out) (fun hH0 => ?_)
      refine wpAnyH_take (i := 0) (oi := _) (v := ?_) (by simp only [List.getElem?_toArray, List.getElem?_cons_succ, List.getElem?_cons_zero]; rfl) (by kernel_rfl) (by kernel_rfl) (by kernel_rfl) (by exact fun _ _ _ h => h) (Or.inl ⟨by rfl, ?_⟩) (by assumption) ?_
      rotate_left
      · (intro w hSw; (try dsimp only at hSw); go_simp; try with_reducible rfl)
      try simp only [Act.put, List.setIfInBounds_toArray, List.set_cons_zero, List.set_cons_succ]
      refine wpAnyH_take (i := 1) (oi := _) (v := ?_) (by simp only [List.getElem?_toArray, List.getElem?_cons_succ, List.getElem?_cons_zero]; rfl) (by kernel_rfl) (by kernel_rfl) (by kernel_rfl) (by exact fun _ _ _ h => h) (Or.inl ⟨by rfl, ?_⟩) (by assumption) ?_
      rotate_left
      · (intro w hSw; (try dsimp only at hSw); go_simp; try with_reducible rfl)
      try simp only [Act.put, List.setIfInBounds_toArray, List.set_cons_zero, List.set_cons_succ]
      refine wpAnyH_ready (rs := [2]) (by kernel_rfl) (by simp) ?_
      refine AllReadyH.cons rfl (fun K hK => ?_) AllReadyH.nil
      go_simp
      refine (HM.out _).mono ?_
      rintro e v1 ⟨rfl, bb⟩
      have HC1 := Lib.hid (HC0.out.on bb)
      clear bb
      go_wp2_with fail
      refine hK.out _ _ (st_cells HC1.out) (fun hH1 => ?_)
      clear hK K hH0
      try simp only [Act.put, List.setIfInBounds_toArray, List.set_cons_zero, List.set_cons_succ]
      refine wpAnyH_take (i := 3) (oi := _) (v := ?_) (by simp only [List.getElem?_toArray, List.getElem?_cons_succ, List.getElem?_cons_zero]; rfl) (by kernel_rfl) (by kernel_rfl) (by kernel_rfl) (by exact fun _ _ _ h => h) (Or.inl ⟨by rfl, ?_⟩) (by assumption) ?_
      rotate_left
      · (intro w hSw; (try dsimp only at hSw); go_simp; try with_reducible rfl)
      try simp only [Act.put, List.setIfInBounds_toArray, List.set_cons_zero, List.set_cons_succ]
      refine wpAnyH_take (i := 4) (oi := _) (v := ?_) (by simp only [List.getElem?_toArray, List.getElem?_cons_succ, List.getElem?_cons_zero]; rfl) (by kernel_rfl) (by kernel_rfl) (by kernel_rfl) (by exact fun _ _ _ h => h) (Or.inl ⟨by rfl, ?_⟩) (by assumption) ?_
      rotate_left
      · (intro w hSw; (try dsimp only at hSw); go_simp; try with_reducible rfl)
      try simp only [Act.put, List.setIfInBounds_toArray, List.set_cons_zero, List.set_cons_succ]
      refine wpAnyH_take (i := 5) (oi := _) (v := ?_) (by simp only [List.getElem?_toArray, List.getElem?_cons_succ, List.getElem?_cons_zero]; rfl) (by kernel_rfl) (by kernel_rfl) (by kernel_rfl) (by exact fun _ _ _ h => h) (Or.inl ⟨by rfl, ?_⟩) (by assumption) ?_
      rotate_left
      · (intro w hSw; (try dsimp only at hSw); go_simp; try with_reducible rfl)
      try simp only [Act.put, List.setIfInBounds_toArray, List.set_cons_zero, List.set_cons_succ]
      refine wpAnyH_take (i := 6) (oi := _) (v := ?_) (by simp only [List.getElem?_toArray, List.getElem?_cons_succ, List.getElem?_cons_zero]; rfl) (by kernel_rfl) (by kernel_rfl) (by kernel_rfl) (by exact fun _ _ _ h => h) (Or.inl ⟨by rfl, ?_⟩) (by assumption) ?_
      rotate_left
      · (intro w hSw; (try dsimp only at hSw); go_simp; try with_reducible rfl)
      try simp only [Act.put, List.setIfInBounds_toArray, List.set_cons_zero, List.set_cons_succ]
      refine wpAnyH_take (i := 7) (oi := _) (v := ?_) (by simp only [List.getElem?_toArray, List.getElem?_cons_succ, List.getElem?_cons_zero]; rfl) (by kernel_rfl) (by kernel_rfl) (by kernel_rfl) (by exact fun _ _ _ h => h) (Or.inl ⟨by rfl, ?_⟩) (by assumption) ?_
      rotate_left
      · (intro w hSw; (try dsimp only at hSw); go_simp; try with_reducible rfl)
      try simp only [Act.put, List.setIfInBounds_toArray, List.set_cons_zero, List.set_cons_succ]
      refine wpAnyH_take (i := 8) (oi := _) (v := ?_) (by simp only [List.getElem?_toArray, List.getElem?_cons_succ, List.getElem?_cons_zero]; rfl) (by kernel_rfl) (by kernel_rfl) (by kernel_rfl) (by exact fun _ _ _ h => h) (Or.inl ⟨by rfl, ?_⟩) (by assumption) ?_
      rotate_left
      · (intro w hSw; (try dsimp only at hSw); go_simp; try with_reducible rfl)
      try simp only [Act.put, List.setIfInBounds_toArray, List.set_cons_zero, List.set_cons_succ]
      refine wpAnyH_ready (rs := [9]) (by kernel_rfl) (by simp) ?_
      refine AllReadyH.cons rfl (fun K hK => ?_) AllReadyH.nil
      go_simp
      refine (HHD.out _).mono ?_
      rintro e v2 ⟨rfl, bb⟩
      have HC2 := Lib.hid (HC1.out.on bb)
      clear bb
      go_wp2_with fail
      refine hK.out _ _ (st_cells HC2.out) (fun hH2 => ?_)
      clear hK K hH1
      try simp only [Act.put, List.setIfInBounds_toArray, List.set_cons_zero, List.set_cons_succ]
      refine wpAnyH_take (i := 10) (oi := _) (v := ?_) (by simp only [List.getElem?_toArray, List.getElem?_cons_succ, List.getElem?_cons_zero]; rfl) (by kernel_rfl) (by kernel_rfl) (by kernel_rfl) (by exact fun _ _ _ h => h) (Or.inl ⟨by rfl, ?_⟩) (by assumption) ?_
      rotate_left
      · (intro w hSw; (try dsimp only at hSw); go_simp; try with_reducible rfl)
      try simp only [Act.put, List.setIfInBounds_toArray, List.set_cons_zero, List.set_cons_succ]
      refine wpAnyH_take (i := 11) (oi := _) (v := ?_) (by simp only [List.getElem?_toArray, List.getElem?_cons_succ, List.getElem?_cons_zero]; rfl) (by kernel_rfl) (by kernel_rfl) (by kernel_rfl) (by exact fun _ _ _ h => h) (Or.inl ⟨by rfl, ?_⟩) (by assumption) ?_
      rotate_left
      · (intro w hSw; (try dsimp only at hSw); go_simp; try with_reducible rfl)
      try simp only [Act.put, List.setIfInBounds_toArray, List.set_cons_zero, List.set_cons_succ]
      refine wpAnyH_take (i := 12) (oi := _) (v := ?_) (by simp only [List.getElem?_toArray, List.getElem?_cons_succ, List.getElem?_cons_zero]; rfl) (by kernel_rfl) (by kernel_rfl) (by kernel_rfl) (by exact fun _ _ _ h => h) (Or.inl ⟨by rfl, ?_⟩) (by assumption) ?_
      rotate_left
      · (intro w hSw; (try dsimp only at hSw); go_simp; try with_reducible rfl)
      try simp only [Act.put, List.setIfInBounds_toArray, List.set_cons_zero, List.set_cons_succ]
      refine wpAnyH_take (i := 13) (oi := _) (v := ?_) (by simp only [List.getElem?_toArray, List.getElem?_cons_succ, List.getElem?_cons_zero]; rfl) (by kernel_rfl) (by kernel_rfl) (by kernel_rfl) (by exact fun _ _ _ h => h) (Or.inl ⟨by rfl, ?_⟩) (by assumption) ?_
      rotate_left
      · (intro w hSw; (try dsimp only at hSw); go_simp; try with_reducible rfl)
      try simp only [Act.put, List.setIfInBounds_toArray, List.set_cons_zero, List.set_cons_succ]
      refine wpAnyH_take (i := 14) (oi := _) (v := ?_) (by simp only [List.getElem?_toArray, List.getElem?_cons_succ, List.getElem?_cons_zero]; rfl) (by kernel_rfl) (by kernel_rfl) (by kernel_rfl) (by exact fun _ _ _ h => h) (Or.inl ⟨by rfl, ?_⟩) (by assumption) ?_
      rotate_left
      · (intro w hSw; (try dsimp only at hSw); go_simp; try with_reducible rfl)
      try simp only [Act.put, List.setIfInBounds_toArray, List.set_cons_zero, List.set_cons_succ]
      refine wpAnyH_take (i := 15) (oi := _) (v := ?_) (by simp only [List.getElem?_toArray, List.getElem?_cons_succ, List.getElem?_cons_zero]; rfl) (by kernel_rfl) (by kernel_rfl) (by kernel_rfl) (by exact fun _ _ _ h => h) (Or.inl ⟨by rfl, ?_⟩) (by assumption) ?_
      rotate_left
      · (intro w hSw; (try dsimp only at hSw); go_simp; try with_reducible rfl)
      try simp only [Act.put, List.setIfInBounds_toArray, List.set_cons_zero, List.set_cons_succ]
      refine wpAnyH_take (i := 16) (oi := _) (v := ?_) (by simp only [List.getElem?_toArray, List.getElem?_cons_succ, List.getElem?_cons_zero]; rfl) (by kernel_rfl) (by kernel_rfl) (by kernel_rfl) (by exact fun _ _ _ h => h) (Or.inl ⟨by rfl, ?_⟩) (by assumption) ?_
      rotate_left
      · (intro w hSw; (try dsimp only at hSw); go_simp; try with_reducible rfl)
      try simp only [Act.put, List.setIfInBounds_toArray, List.set_cons_zero, List.set_cons_succ]
      refine wpAnyH_take (i := 17) (oi := _) (v := undef) (by simp only [List.getElem?_toArray, List.getElem?_cons_succ, List.getElem?_cons_zero]; rfl) (by kernel_rfl) (by kernel_rfl) (by kernel_rfl) (by exact fun _ _ _ h => h) (Or.inr ⟨by rfl, rfl⟩) (by assumption) ?_
      try simp only [Act.put, List.setIfInBounds_toArray, List.set_cons_zero, List.set_cons_succ]
      refine wpAnyH_take (i := 18) (oi := _) (v := undef) (by simp only [List.getElem?_toArray, List.getElem?_cons_succ, List.getElem?_cons_zero]; rfl) (by kernel_rfl) (by kernel_rfl) (by kernel_rfl) (by exact fun _ _ _ h => h) (Or.inr ⟨by rfl, rfl⟩) (by assumption) ?_
      try simp only [Act.put, List.setIfInBounds_toArray, List.set_cons_zero, List.set_cons_succ]
      refine wpAnyH_take (i := 19) (oi := _) (v := ?_) (by simp only [List.getElem?_toArray, List.getElem?_cons_succ, List.getElem?_cons_zero]; rfl) (by kernel_rfl) (by kernel_rfl) (by kernel_rfl) (by exact fun _ _ _ h => h) (Or.inl ⟨by rfl, ?_⟩) (by assumption) ?_
      rotate_left
      · (intro w hSw; (try dsimp only at hSw); go_simp; try with_reducible rfl)
      try simp only [Act.put, List.setIfInBounds_toArray, List.set_cons_zero, List.set_cons_succ]
      refine wpAnyH_take (i := 20) (oi := _) (v := ?_) (by simp only [List.getElem?_toArray, List.getElem?_cons_succ, List.getElem?_cons_zero]; rfl) (by kernel_rfl) (by kernel_rfl) (by kernel_rfl) (by exact fun _ _ _ h => h) (Or.inl ⟨by rfl, ?_⟩) (by assumption) ?_
      rotate_left
      · (intro w hSw; (try dsimp only at hSw); go_simp; try with_reducible rfl)
      try simp only [Act.put, List.setIfInBounds_toArray, List.set_cons_zero, List.set_cons_succ]
      refine wpAnyH_take (i := 21) (oi := _) (v := ?_) (by simp only [List.getElem?_toArray, List.getElem?_cons_succ, List.getElem?_cons_zero]; rfl) (by kernel_rfl) (by kernel_rfl) (by kernel_rfl) (by exact fun _ _ _ h => h) (Or.inl ⟨by rfl, ?_⟩) (by assumption) ?_
      rotate_left
      · (intro w hSw; (try dsimp only at hSw); go_simp; try with_reducible rfl)
      try simp only [Act.put, List.setIfInBounds_toArray, List.set_cons_zero, List.set_cons_succ]
      refine wpAnyH_take (i := 22) (oi := _) (v := ?_) (by simp only [List.getElem?_toArray, List.getElem?_cons_succ, List.getElem?_cons_zero]; rfl) (by kernel_rfl) (by kernel_rfl) (by kernel_rfl) (by exact fun _ _ _ h => h) (Or.inl ⟨by rfl, ?_⟩) (by assumption) ?_
      rotate_left
      · (intro w hSw; (try dsimp only at hSw); go_simp; try with_reducible rfl)
      try simp only [Act.put, List.setIfInBounds_toArray, List.set_cons_zero, List.set_cons_succ]
      refine wpAnyH_take (i := 24) (oi := _) (v := ?_) (by simp only [List.getElem?_toArray, List.getElem?_cons_succ, List.getElem?_cons_zero]; rfl) (by kernel_rfl) (by kernel_rfl) (by kernel_rfl) (by exact fun _ _ _ h => h) (Or.inl ⟨by rfl, ?_⟩) (by assumption) ?_
      rotate_left
      · (intro w hSw; (try dsimp only at hSw); go_simp; try with_reducible rfl)
      try simp only [Act.put, List.setIfInBounds_toArray, List.set_cons_zero, List.set_cons_succ]
      refine wpAnyH_ready (rs := [23]) (by kernel_rfl) (by simp) ?_
      refine AllReadyH.cons rfl (fun K hK => ?_) AllReadyH.nil
      go_simp
      refine (HWA.out _).mono ?_
      rintro e v3 ⟨rfl, bb⟩
      have HC3 := Lib.hid (HC2.out.on bb)
      clear bb
      go_wp2_with fail
      refine hK.out _ _ (st_cells HC3.out) (fun hH3 => ?_)
      clear hK K hH2
      try simp only [Act.put, List.setIfInBounds_toArray, List.set_cons_zero, List.set_cons_succ]
      refine wpAnyH_ready (rs := [25]) (by kernel_rfl) (by simp) ?_
      refine AllReadyH.cons rfl (fun K hK => ?_) AllReadyH.nil
      go_simp
      refine (HWB.out _).mono ?_
      rintro e v4 ⟨rfl, bb⟩
      have HC4 := Lib.hid (HC3.out.on bb)
      clear bb
      go_wp2_with fail
      refine hK.out _ _ (st_cells HC4.out) (fun hH4 => ?_)
      clear hK K hH3
      try simp only [Act.put, List.setIfInBounds_toArray, List.set_cons_zero, List.set_cons_succ]
      refine wpAnyH_take (i := 26) (oi := _) (v := ?_) (by simp only [List.getElem?_toArray, List.getElem?_cons_succ, List.getElem?_cons_zero]; rfl) (by kernel_rfl) (by kernel_rfl) (by kernel_rfl) (by exact fun _ _ _ h => h) (Or.inl ⟨by rfl, ?_⟩) (by assumption) ?_
      rotate_left
      · (intro w hSw; (try dsimp only at hSw); go_simp; try with_reducible rfl)
      try simp only [Act.put, List.setIfInBounds_toArray, List.set_cons_zero, List.set_cons_succ]
      refine wpAnyH_take (i := 27) (oi := _) (v := ?_) (by simp only [List.getElem?_toArray, List.getElem?_cons_succ, List.getElem?_cons_zero]; rfl) (by kernel_rfl) (by kernel_rfl) (by kernel_rfl) (by exact fun _ _ _ h => h) (Or.inl ⟨by rfl, ?_⟩) (by assumption) ?_
      rotate_left
      · (intro w hSw; (try dsimp only at hSw); go_simp; try with_reducible rfl)
      try simp only [Act.put, List.setIfInBounds_toArray, List.set_cons_zero, List.set_cons_succ]
      refine wpAnyH_take (i := 28) (oi := _) (v := ?_) (by simp only [List.getElem?_toArray, List.getElem?_cons_succ, List.getElem?_cons_zero]; rfl) (by kernel_rfl) (by kernel_rfl) (by kernel_rfl) (by exact fun _ _ _ h => h) (Or.inl ⟨by rfl, ?_⟩) (by assumption) ?_
      rotate_left
      · (intro w hSw; (try dsimp only at hSw); go_simp; try with_reducible rfl)
      try simp only [Act.put, List.setIfInBounds_toArray, List.set_cons_zero, List.set_cons_succ]
      refine wpAnyH_take (i := 29) (oi := _) (v := ?_) (by simp only [List.getElem?_toArray, List.getElem?_cons_succ, List.getElem?_cons_zero]; rfl) (by kernel_rfl) (by kernel_rfl) (by kernel_rfl) (by exact fun _ _ _ h => h) (Or.inl ⟨by rfl, ?_⟩) (by assumption) ?_
      rotate_left
      · (intro w hSw; (try dsimp only at hSw); go_simp; try with_reducible rfl)
      try simp only [Act.put, List.setIfInBounds_toArray, List.set_cons_zero, List.set_cons_succ]
      refine wpAnyH_take (i := 30) (oi := _) (v := ?_) (by simp only [List.getElem?_toArray, List.getElem?_cons_succ, List.getElem?_cons_zero]; rfl) (by kernel_rfl) (by kernel_rfl) (by kernel_rfl) (by exact fun _ _ _ h => h) (Or.inl ⟨by rfl, ?_⟩) (by assumption) ?_
      rotate_left
      · (intro w hSw; (try dsimp only at hSw); go_simp; try with_reducible rfl)
      try simp only [Act.put, List.setIfInBounds_toArray, List.set_cons_zero, List.set_cons_succ]
      refine wpAnyH_take (i := 31) (oi := _) (v := ?_) (by simp only [List.getElem?_toArray, List.getElem?_cons_succ, List.getElem?_cons_zero]; rfl) (by kernel_rfl) (by kernel_rfl) (by kernel_rfl) (by exact fun _ _ _ h => h) (Or.inl ⟨by rfl, ?_⟩) (by assumption) ?_
      rotate_left
      · (intro w hSw; (try dsimp only at hSw); go_simp; try with_reducible rfl)
      try simp only [Act.put, List.setIfInBounds_toArray, List.set_cons_zero, List.set_cons_succ]
      refine wpAnyH_ready (rs := [32]) (by kernel_rfl) (by simp) ?_
      refine AllReadyH.cons rfl (fun K hK => ?_) AllReadyH.nil
      go_simp
      refine (keepObject_same O.kind O.tag ga qa O.fs gc qc ⟨O.tx.toArray⟩ _ ((HC4.out.rd 2 _ rfl).1) ((HC4.out.rd 3 _ rfl).1) (by omega)).mono ?_
      rintro e v5 ⟨rfl, bb⟩
      have HC5 := Lib.hid (HC4.out.on bb)
      clear bb
      go_wp2_with fail
      refine hK.out _ _ (st_cells HC5.out) (fun hH5 => ?_)
      clear hK K hH4
      try simp only [Act.put, List.setIfInBounds_toArray, List.set_cons_zero, List.set_cons_succ]
      refine wpAnyH_take (i := 33) (oi := _) (v := ?_) (by simp only [List.getElem?_toArray, List.getElem?_cons_succ, List.getElem?_cons_zero]; rfl) (by kernel_rfl) (by kernel_rfl) (by kernel_rfl) (by exact fun _ _ _ h => h) (Or.inl ⟨by rfl, ?_⟩) (by assumption) ?_
      rotate_left
      · (intro w hSw; (try dsimp only at hSw); go_simp; try with_reducible rfl)
      try simp only [Act.put, List.setIfInBounds_toArray, List.set_cons_zero, List.set_cons_succ]
      refine wpAnyH_take (i := 34) (oi := _) (v := ?_) (by simp only [List.getElem?_toArray, List.getElem?_cons_succ, List.getElem?_cons_zero]; rfl) (by kernel_rfl) (by kernel_rfl) (by kernel_rfl) (by exact fun _ _ _ h => h) (Or.inl ⟨by rfl, ?_⟩) (by assumption) ?_
      rotate_left
      · (intro w hSw; (try dsimp only at hSw); go_simp; try with_reducible rfl)
      try simp only [Act.put, List.setIfInBounds_toArray, List.set_cons_zero, List.set_cons_succ]
      refine wpAnyH_take (i := 35) (oi := _) (v := ?_) (by simp only [List.getElem?_toArray, List.getElem?_cons_succ, List.getElem?_cons_zero]; rfl) (by kernel_rfl) (by kernel_rfl) (by kernel_rfl) (by exact fun _ _ _ h => h) (Or.inl ⟨by rfl, ?_⟩) (by assumption) ?_
      rotate_left
      · (intro w hSw; (try dsimp only at hSw); go_simp; try with_reducible rfl)
      try simp only [Act.put, List.setIfInBounds_toArray, List.set_cons_zero, List.set_cons_succ]
      refine wpAnyH_take (i := 36) (oi := _) (v := ?_) (by simp only [List.getElem?_toArray, List.getElem?_cons_succ, List.getElem?_cons_zero]; rfl) (by kernel_rfl) (by kernel_rfl) (by kernel_rfl) (by exact fun _ _ _ h => h) (Or.inl ⟨by rfl, ?_⟩) (by assumption) ?_
      rotate_left
      · (intro w hSw; (try dsimp only at hSw); go_simp; try with_reducible rfl)
      try simp only [Act.put, List.setIfInBounds_toArray, List.set_cons_zero, List.set_cons_succ]
      refine wpAnyH_take (i := 37) (oi := _) (v := ?_) (by simp only [List.getElem?_toArray, List.getElem?_cons_succ, List.getElem?_cons_zero]; rfl) (by kernel_rfl) (by kernel_rfl) (by kernel_rfl) (by exact fun _ _ _ h => h) (Or.inl ⟨by rfl, ?_⟩) (by assumption) ?_
      rotate_left
      · (intro w hSw; (try dsimp only at hSw); go_simp; try with_reducible rfl)
      try simp only [Act.put, List.setIfInBounds_toArray, List.set_cons_zero, List.set_cons_succ]
      refine wpAnyH_take (i := 38) (oi := _) (v := ?_) (by simp only [List.getElem?_toArray, List.getElem?_cons_succ, List.getElem?_cons_zero]; rfl) (by kernel_rfl) (by kernel_rfl) (by kernel_rfl) (by exact fun _ _ _ h => h) (Or.inl ⟨by rfl, ?_⟩) (by assumption) ?_
      rotate_left
      · (intro w hSw; (try dsimp only at hSw); go_simp; try with_reducible rfl)
      try simp only [Act.put, List.setIfInBounds_toArray, List.set_cons_zero, List.set_cons_succ]
      refine wpAnyH_take (i := 39) (oi := _) (v := ?_) (by simp only [List.getElem?_toArray, List.getElem?_cons_succ, List.getElem?_cons_zero]; rfl) (by kernel_rfl) (by kernel_rfl) (by kernel_rfl) (by exact fun _ _ _ h => h) (Or.inl ⟨by rfl, ?_⟩) (by assumption) ?_
      rotate_left
      · (intro w hSw; (try dsimp only at hSw); go_simp; try with_reducible rfl)
      try simp only [Act.put, List.setIfInBounds_toArray, List.set_cons_zero, List.set_cons_succ]
      refine wpAnyH_take (i := 40) (oi := _) (v := ?_) (by simp only [List.getElem?_toArray, List.getElem?_cons_succ, List.getElem?_cons_zero]; rfl) (by kernel_rfl) (by kernel_rfl) (by kernel_rfl) (by exact fun _ _ _ h => h) (Or.inl ⟨by rfl, ?_⟩) (by assumption) ?_
      rotate_left
      · (intro w hSw; (try dsimp only at hSw); go_simp; try with_reducible rfl)
      try simp only [Act.put, List.setIfInBounds_toArray, List.set_cons_zero, List.set_cons_succ]
      refine wpAnyH_take (i := 41) (oi := _) (v := ?_) (by simp only [List.getElem?_toArray, List.getElem?_cons_succ, List.getElem?_cons_zero]; rfl) (by kernel_rfl) (by kernel_rfl) (by kernel_rfl) (by exact fun _ _ _ h => h) (Or.inl ⟨by rfl, ?_⟩) (by assumption) ?_
      rotate_left
      · (intro w hSw; (try dsimp only at hSw); go_simp; try with_reducible rfl)
      try simp only [Act.put, List.setIfInBounds_toArray, List.set_cons_zero, List.set_cons_succ]
      refine wpAnyH_take (i := 42) (oi := _) (v := ?_) (by simp only [List.getElem?_toArray, List.getElem?_cons_succ, List.getElem?_cons_zero]; rfl) (by kernel_rfl) (by kernel_rfl) (by kernel_rfl) (by exact fun _ _ _ h => h) (Or.inl ⟨by rfl, ?_⟩) (by assumption) ?_
      rotate_left
      · (intro w hSw; (try dsimp only at hSw); go_simp; try with_reducible rfl)
      try simp only [Act.put, List.setIfInBounds_toArray, List.set_cons_zero, List.set_cons_succ]
      refine wpAnyH_take (i := 43) (oi := _) (v := ?_) (by simp only [List.getElem?_toArray, List.getElem?_cons_succ, List.getElem?_cons_zero]; rfl) (by kernel_rfl) (by kernel_rfl) (by kernel_rfl) (by exact fun _ _ _ h => h) (Or.inl ⟨by rfl, ?_⟩) (by assumption) ?_
      rotate_left
      · (intro w hSw; (try dsimp only at hSw); go_simp; try with_reducible rfl)
      try simp only [Act.put, List.setIfInBounds_toArray, List.set_cons_zero, List.set_cons_succ]
      refine wpAnyH_take (i := 44) (oi := _) (v := ?_) (by simp only [List.getElem?_toArray, List.getElem?_cons_succ, List.getElem?_cons_zero]; rfl) (by kernel_rfl) (by kernel_rfl) (by kernel_rfl) (by exact fun _ _ _ h => h) (Or.inl ⟨by rfl, ?_⟩) (by assumption) ?_
      rotate_left
      · (intro w hSw; (try dsimp only at hSw); go_simp; try with_reducible rfl)
      try simp only [Act.put, List.setIfInBounds_toArray, List.set_cons_zero, List.set_cons_succ]
      refine wpAnyH_ready (rs := [45]) (by kernel_rfl) (by simp) ?_
      refine AllReadyH.cons rfl (fun K hK => ?_) AllReadyH.nil
      go_simp
      refine (keepInts_h (xs := L) (ys := L) (b := true) ((HC5.out.rd 4 _ rfl).1) ((HC5.out.rd 5 _ rfl).1) (by omega) (by simp)).mono ?_
      rintro e v6 ⟨rfl, bb⟩
      have HC6 := Lib.hid (HC5.out.on bb)
      clear bb
      go_wp2_with fail
      refine hK.out _ _ (st_cells HC6.out) (fun hH6 => ?_)
      clear hK K hH5
      try simp only [Act.put, List.setIfInBounds_toArray, List.set_cons_zero, List.set_cons_succ]
      refine wpAnyH_take (i := 46) (oi := _) (v := ?_) (by simp only [List.getElem?_toArray, List.getElem?_cons_succ, List.getElem?_cons_zero]; rfl) (by kernel_rfl) (by kernel_rfl) (by kernel_rfl) (by exact fun _ _ _ h => h) (Or.inl ⟨by rfl, ?_⟩) (by assumption) ?_
      rotate_left
      · (intro w hSw; (try dsimp only at hSw); go_simp; try with_reducible rfl)
      try simp only [Act.put, List.setIfInBounds_toArray, List.set_cons_zero, List.set_cons_succ]
      refine wpAnyH_take (i := 47) (oi := _) (v := ?_) (by simp only [List.getElem?_toArray, List.getElem?_cons_succ, List.getElem?_cons_zero]; rfl) (by kernel_rfl) (by kernel_rfl) (by kernel_rfl) (by exact fun _ _ _ h => h) (Or.inl ⟨by rfl, ?_⟩) (by assumption) ?_
      rotate_left
      · (intro w hSw; (try dsimp only at hSw); go_simp; try with_reducible rfl)
      try simp only [Act.put, List.setIfInBounds_toArray, List.set_cons_zero, List.set_cons_succ]
      refine wpAnyH_take (i := 48) (oi := _) (v := ?_) (by simp only [List.getElem?_toArray, List.getElem?_cons_succ, List.getElem?_cons_zero]; rfl) (by kernel_rfl) (by kernel_rfl) (by kernel_rfl) (by exact fun _ _ _ h => h) (Or.inl ⟨by rfl, ?_⟩) (by assumption) ?_
      rotate_left
      · (intro w hSw; (try dsimp only at hSw); go_simp; try with_reducible rfl)
      try simp only [Act.put, List.setIfInBounds_toArray, List.set_cons_zero, List.set_cons_succ]
      refine wpAnyH_take (i := 49) (oi := _) (v := ?_) (by simp only [List.getElem?_toArray, List.getElem?_cons_succ, List.getElem?_cons_zero]; rfl) (by kernel_rfl) (by kernel_rfl) (by kernel_rfl) (by exact fun _ _ _ h => h) (Or.inl ⟨by rfl, ?_⟩) (by assumption) ?_
      rotate_left
      · (intro w hSw; (try dsimp only at hSw); go_simp; try with_reducible rfl)
      try simp only [Act.put, List.setIfInBounds_toArray, List.set_cons_zero, List.set_cons_succ]
      refine wpAnyH_take (i := 50) (oi := _) (v := ?_) (by simp only [List.getElem?_toArray, List.getElem?_cons_succ, List.getElem?_cons_zero]; rfl) (by kernel_rfl) (by kernel_rfl) (by kernel_rfl) (by exact fun _ _ _ h => h) (Or.inl ⟨by rfl, ?_⟩) (by assumption) ?_
      rotate_left
      · (intro w hSw; (try dsimp only at hSw); go_simp; try with_reducible rfl)
      try simp only [Act.put, List.setIfInBounds_toArray, List.set_cons_zero, List.set_cons_succ]
      refine wpAnyH_take (i := 51) (oi := _) (v := ?_) (by simp only [List.getElem?_toArray, List.getElem?_cons_succ, List.getElem?_cons_zero]; rfl) (by kernel_rfl) (by kernel_rfl) (by kernel_rfl) (by exact fun _ _ _ h => h) (Or.inl ⟨by rfl, ?_⟩) (by assumption) ?_
      rotate_left
      · (intro w hSw; (try dsimp only at hSw); go_simp; try with_reducible rfl)
      try simp only [Act.put, List.setIfInBounds_toArray, List.set_cons_zero, List.set_cons_succ]
      refine wpAnyH_take (i := 52) (oi := _) (v := ?_) (by simp only [List.getElem?_toArray, List.getElem?_cons_succ, List.getElem?_cons_zero]; rfl) (by kernel_rfl) (by kernel_rfl) (by kernel_rfl) (by exact fun _ _ _ h => h) (Or.inl ⟨by rfl, ?_⟩) (by assumption) ?_
      rotate_left
      · (intro w hSw; (try dsimp only at hSw); go_simp; try with_reducible rfl)
      try simp only [Act.put, List.setIfInBounds_toArray, List.set_cons_zero, List.set_cons_succ]
      refine wpAnyH_take (i := 53) (oi := _) (v := ?_) (by simp only [List.getElem?_toArray, List.getElem?_cons_succ, List.getElem?_cons_zero]; rfl) (by kernel_rfl) (by kernel_rfl) (by kernel_rfl) (by exact fun _ _ _ h => h) (Or.inl ⟨by rfl, ?_⟩) (by assumption) ?_
      rotate_left
      · (intro w hSw; (try dsimp only at hSw); go_simp; try with_reducible rfl)
      try simp only [Act.put, List.setIfInBounds_toArray, List.set_cons_zero, List.set_cons_succ]
      refine wpAnyH_take (i := 54) (oi := _) (v := ?_) (by simp only [List.getElem?_toArray, List.getElem?_cons_succ, List.getElem?_cons_zero]; rfl) (by kernel_rfl) (by kernel_rfl) (by kernel_rfl) (by exact fun _ _ _ h => h) (Or.inl ⟨by rfl, ?_⟩) (by assumption) ?_
      rotate_left
      · (intro w hSw; (try dsimp only at hSw); go_simp; try with_reducible rfl)
      try simp only [Act.put, List.setIfInBounds_toArray, List.set_cons_zero, List.set_cons_succ]
      refine wpAnyH_take (i := 55) (oi := _) (v := ?_) (by simp only [List.getElem?_toArray, List.getElem?_cons_succ, List.getElem?_cons_zero]; rfl) (by kernel_rfl) (by kernel_rfl) (by kernel_rfl) (by exact fun _ _ _ h => h) (Or.inl ⟨by rfl, ?_⟩) (by assumption) ?_
      rotate_left
      · (intro w hSw; (try dsimp only at hSw); go_simp; try with_reducible rfl)
      try simp only [Act.put, List.setIfInBounds_toArray, List.set_cons_zero, List.set_cons_succ]
      refine wpAnyH_take (i := 56) (oi := _) (v := ?_) (by simp only [List.getElem?_toArray, List.getElem?_cons_succ, List.getElem?_cons_zero]; rfl) (by kernel_rfl) (by kernel_rfl) (by kernel_rfl) (by exact fun _ _ _ h => h) (Or.inl ⟨by rfl, ?_⟩) (by assumption) ?_
      rotate_left
      · (intro w hSw; (try dsimp only at hSw); go_simp; try with_reducible rfl)
      try simp only [Act.put, List.setIfInBounds_toArray, List.set_cons_zero, List.set_cons_succ]
      refine wpAnyH_take (i := 57) (oi := _) (v := ?_) (by simp only [List.getElem?_toArray, List.getElem?_cons_succ, List.getElem?_cons_zero]; rfl) (by kernel_rfl) (by kernel_rfl) (by kernel_rfl) (by exact fun _ _ _ h => h) (Or.inl ⟨by rfl, ?_⟩) (by assumption) ?_
      rotate_left
      · (intro w hSw; (try dsimp only at hSw); go_simp; try with_reducible rfl)
      try simp only [Act.put, List.setIfInBounds_toArray, List.set_cons_zero, List.set_cons_succ]
      refine wpAnyH_take (i := 59) (oi := _) (v := ?_) (by simp only [List.getElem?_toArray, List.getElem?_cons_succ, List.getElem?_cons_zero]; rfl) (by kernel_rfl) (by kernel_rfl) (by kernel_rfl) (by exact fun _ _ _ h => h) (Or.inl ⟨by rfl, ?_⟩) (by assumption) ?_
      rotate_left
      · (intro w hSw; (try dsimp only at hSw); go_simp; try with_reducible rfl)
      try simp only [Act.put, List.setIfInBounds_toArray, List.set_cons_zero, List.set_cons_succ]
      refine wpAnyH_take (i := 60) (oi := _) (v := ?_) (by simp only [List.getElem?_toArray, List.getElem?_cons_succ, List.getElem?_cons_zero]; rfl) (by kernel_rfl) (by kernel_rfl) (by kernel_rfl) (by exact fun _ _ _ h => h) (Or.inl ⟨by rfl, ?_⟩) (by assumption) ?_
      rotate_left
      · (intro w hSw; (try dsimp only at hSw); go_simp; try with_reducible rfl)
      try simp only [Act.put, List.setIfInBounds_toArray, List.set_cons_zero, List.set_cons_succ]
      refine wpAnyH_ready (rs := [58]) (by kernel_rfl) (by simp) ?_
      refine AllReadyH.cons rfl (fun K hK => ?_) AllReadyH.nil
      go_simp
      refine (good_to HC6.out.ha HSZ.out).mono ?_
      rintro e v7 ⟨rfl, bb⟩
      have HC7 := Lib.hid (HC6.out.on bb)
      clear bb
      go_wp2_with fail
      refine hK.out _ _ (st_cells HC7.out) (fun hH7 => ?_)
      clear hK K hH6
      try simp only [Act.put, List.setIfInBounds_toArray, List.set_cons_zero, List.set_cons_succ]
      refine wpAnyH_take (i := 61) (oi := _) (v := ?_) (by simp only [List.getElem?_toArray, List.getElem?_cons_succ, List.getElem?_cons_zero]; rfl) (by kernel_rfl) (by kernel_rfl) (by kernel_rfl) (by exact fun _ _ _ h => h) (Or.inl ⟨by rfl, ?_⟩) (by assumption) ?_
      rotate_left
      · (intro w hSw; (try dsimp only at hSw); go_simp; try with_reducible rfl)
      try simp only [Act.put, List.setIfInBounds_toArray, List.set_cons_zero, List.set_cons_succ]
      refine wpAnyH_take (i := 62) (oi := _) (v := ?_) (by simp only [List.getElem?_toArray, List.getElem?_cons_succ, List.getElem?_cons_zero]; rfl) (by kernel_rfl) (by kernel_rfl) (by kernel_rfl) (by exact fun _ _ _ h => h) (Or.inl ⟨by rfl, ?_⟩) (by assumption) ?_
      rotate_left
      · (intro w hSw; (try dsimp only at hSw); go_simp; try with_reducible rfl)
      try simp only [Act.put, List.setIfInBounds_toArray, List.set_cons_zero, List.set_cons_succ]
      refine wpAnyH_done (by kernel_rfl) ?_ _
      go_wp2_with fail
      go_meet
      exact ⟨rfl, HC7.out⟩
    | false =>
      have hv0 : V = 0 := by
        have hv := HHV.out
        unfold headWR at hv
        rw [if_neg (by rw [HHX.out]; decide)] at hv
        exact hv.symm
      subst hv0
      refine wp_region_held_drew (S := fun w' => w'.cell? ⟨B0, 0, none⟩ = some (.int .i64 k) ∧ w'.cell? ⟨B0, 1, none⟩ = some (.int .i64 t) ∧ w'.cell? ⟨B0, 2, none⟩ = some (.slice oa xs.length oc) ∧ w'.cell? ⟨B0, 3, none⟩ = some (.string s) ∧ w'.cell? ⟨B1, 0, none⟩ = some (.pointer (some ⟨p, 0, none⟩)) ∧ w'.cell? ⟨B2, 0, none⟩ = some (.int .i64 3) ∧ w'.cell? ⟨B2, 1, none⟩ = some (.int .i64 half) ∧ w'.cell? ⟨B2, 2, none⟩ = some (.int .i64 space) ∧ w'.cell? ⟨B2, 3, none⟩ = some (.int .i64 top) ∧ w'.cell? ⟨B3, 0, none⟩ = some (.int .i64 k) ∧ w'.cell? ⟨B3, 1, none⟩ = some (.int .i64 t) ∧ w'.cell? ⟨B3, 2, none⟩ = some (.slice ob xs.length od) ∧ w'.cell? ⟨B3, 3, none⟩ = some (.string s) ∧ w'.cell? ⟨B4, 0, none⟩ = some (.int .i64 O.kind) ∧ w'.cell? ⟨B4, 1, none⟩ = some (.int .i64 O.tag) ∧ w'.cell? ⟨B4, 2, none⟩ = some (.slice ga O.fs.length gc) ∧ w'.cell? ⟨B4, 3, none⟩ = some (.string ⟨O.tx.toArray⟩) ∧ w'.cell? ⟨B5, 0, none⟩ = some (.int .i64 O.kind) ∧ w'.cell? ⟨B5, 1, none⟩ = some (.int .i64 O.tag) ∧ w'.cell? ⟨B5, 2, none⟩ = some (.slice qa O.fs.length qc) ∧ w'.cell? ⟨B5, 3, none⟩ = some (.string ⟨O.tx.toArray⟩) ∧ w'.cell? ⟨B5, 4, none⟩ = some (.bool Y) ∧ w'.cell? ⟨B6, 0, none⟩ = some (.slice pa L.length pc) ∧ w'.cell? ⟨B6, 1, none⟩ = some (.bool Z)) (by kernel_rfl) (st_cells HC0.out) (fun hH0 => ?_)
      refine wpAnyH_take (i := 0) (oi := _) (v := ?_) (by simp only [List.getElem?_toArray, List.getElem?_cons_succ, List.getElem?_cons_zero]; rfl) (by kernel_rfl) (by kernel_rfl) (by kernel_rfl) (by exact fun _ _ _ h => h) (Or.inl ⟨by rfl, ?_⟩) (by assumption) ?_
      rotate_left
      · (intro w hSw; (try dsimp only at hSw); go_simp; try with_reducible rfl)
      try simp only [Act.put, List.setIfInBounds_toArray, List.set_cons_zero, List.set_cons_succ]
      refine wpAnyH_take (i := 1) (oi := _) (v := ?_) (by simp only [List.getElem?_toArray, List.getElem?_cons_succ, List.getElem?_cons_zero]; rfl) (by kernel_rfl) (by kernel_rfl) (by kernel_rfl) (by exact fun _ _ _ h => h) (Or.inl ⟨by rfl, ?_⟩) (by assumption) ?_
      rotate_left
      · (intro w hSw; (try dsimp only at hSw); go_simp; try with_reducible rfl)
      try simp only [Act.put, List.setIfInBounds_toArray, List.set_cons_zero, List.set_cons_succ]
      refine wpAnyH_ready (rs := [2]) (by kernel_rfl) (by simp) ?_
      refine AllReadyH.cons rfl (fun K hK => ?_) AllReadyH.nil
      go_simp
      refine (HM.out _).mono ?_
      rintro e v1 ⟨rfl, bb⟩
      have HC1 := Lib.hid (HC0.out.on bb)
      clear bb
      go_wp2_with fail
      refine hK.out _ _ (st_cells HC1.out) (fun hH1 => ?_)
      clear hK K hH0
      try simp only [Act.put, List.setIfInBounds_toArray, List.set_cons_zero, List.set_cons_succ]
      refine wpAnyH_take (i := 3) (oi := _) (v := ?_) (by simp only [List.getElem?_toArray, List.getElem?_cons_succ, List.getElem?_cons_zero]; rfl) (by kernel_rfl) (by kernel_rfl) (by kernel_rfl) (by exact fun _ _ _ h => h) (Or.inl ⟨by rfl, ?_⟩) (by assumption) ?_
      rotate_left
      · (intro w hSw; (try dsimp only at hSw); go_simp; try with_reducible rfl)
      try simp only [Act.put, List.setIfInBounds_toArray, List.set_cons_zero, List.set_cons_succ]
      refine wpAnyH_take (i := 4) (oi := _) (v := ?_) (by simp only [List.getElem?_toArray, List.getElem?_cons_succ, List.getElem?_cons_zero]; rfl) (by kernel_rfl) (by kernel_rfl) (by kernel_rfl) (by exact fun _ _ _ h => h) (Or.inl ⟨by rfl, ?_⟩) (by assumption) ?_
      rotate_left
      · (intro w hSw; (try dsimp only at hSw); go_simp; try with_reducible rfl)
      try simp only [Act.put, List.setIfInBounds_toArray, List.set_cons_zero, List.set_cons_succ]
      refine wpAnyH_take (i := 5) (oi := _) (v := ?_) (by simp only [List.getElem?_toArray, List.getElem?_cons_succ, List.getElem?_cons_zero]; rfl) (by kernel_rfl) (by kernel_rfl) (by kernel_rfl) (by exact fun _ _ _ h => h) (Or.inl ⟨by rfl, ?_⟩) (by assumption) ?_
      rotate_left
      · (intro w hSw; (try dsimp only at hSw); go_simp; try with_reducible rfl)
      try simp only [Act.put, List.setIfInBounds_toArray, List.set_cons_zero, List.set_cons_succ]
      refine wpAnyH_take (i := 6) (oi := _) (v := ?_) (by simp only [List.getElem?_toArray, List.getElem?_cons_succ, List.getElem?_cons_zero]; rfl) (by kernel_rfl) (by kernel_rfl) (by kernel_rfl) (by exact fun _ _ _ h => h) (Or.inl ⟨by rfl, ?_⟩) (by assumption) ?_
      rotate_left
      · (intro w hSw; (try dsimp only at hSw); go_simp; try with_reducible rfl)
      try simp only [Act.put, List.setIfInBounds_toArray, List.set_cons_zero, List.set_cons_succ]
      refine wpAnyH_take (i := 7) (oi := _) (v := undef) (by simp only [List.getElem?_toArray, List.getElem?_cons_succ, List.getElem?_cons_zero]; rfl) (by kernel_rfl) (by kernel_rfl) (by kernel_rfl) (by exact fun _ _ _ h => h) (Or.inr ⟨by rfl, rfl⟩) (by assumption) ?_
      try simp only [Act.put, List.setIfInBounds_toArray, List.set_cons_zero, List.set_cons_succ]
      refine wpAnyH_take (i := 8) (oi := _) (v := undef) (by simp only [List.getElem?_toArray, List.getElem?_cons_succ, List.getElem?_cons_zero]; rfl) (by kernel_rfl) (by kernel_rfl) (by kernel_rfl) (by exact fun _ _ _ h => h) (Or.inr ⟨by rfl, rfl⟩) (by assumption) ?_
      try simp only [Act.put, List.setIfInBounds_toArray, List.set_cons_zero, List.set_cons_succ]
      refine wpAnyH_take (i := 9) (oi := _) (v := undef) (by simp only [List.getElem?_toArray, List.getElem?_cons_succ, List.getElem?_cons_zero]; rfl) (by kernel_rfl) (by kernel_rfl) (by kernel_rfl) (by exact fun _ _ _ h => h) (Or.inr ⟨by rfl, rfl⟩) (by assumption) ?_
      try simp only [Act.put, List.setIfInBounds_toArray, List.set_cons_zero, List.set_cons_succ]
      refine wpAnyH_take (i := 10) (oi := _) (v := undef) (by simp only [List.getElem?_toArray, List.getElem?_cons_succ, List.getElem?_cons_zero]; rfl) (by kernel_rfl) (by kernel_rfl) (by kernel_rfl) (by exact fun _ _ _ h => h) (Or.inr ⟨by rfl, rfl⟩) (by assumption) ?_
      try simp only [Act.put, List.setIfInBounds_toArray, List.set_cons_zero, List.set_cons_succ]
      refine wpAnyH_take (i := 11) (oi := _) (v := ?_) (by simp only [List.getElem?_toArray, List.getElem?_cons_succ, List.getElem?_cons_zero]; rfl) (by kernel_rfl) (by kernel_rfl) (by kernel_rfl) (by exact fun _ _ _ h => h) (Or.inl ⟨by rfl, ?_⟩) (by assumption) ?_
      rotate_left
      · (intro w hSw; (try dsimp only at hSw); go_simp; try with_reducible rfl)
      try simp only [Act.put, List.setIfInBounds_toArray, List.set_cons_zero, List.set_cons_succ]
      refine wpAnyH_take (i := 12) (oi := _) (v := ?_) (by simp only [List.getElem?_toArray, List.getElem?_cons_succ, List.getElem?_cons_zero]; rfl) (by kernel_rfl) (by kernel_rfl) (by kernel_rfl) (by exact fun _ _ _ h => h) (Or.inl ⟨by rfl, ?_⟩) (by assumption) ?_
      rotate_left
      · (intro w hSw; (try dsimp only at hSw); go_simp; try with_reducible rfl)
      try simp only [Act.put, List.setIfInBounds_toArray, List.set_cons_zero, List.set_cons_succ]
      refine wpAnyH_take (i := 13) (oi := _) (v := ?_) (by simp only [List.getElem?_toArray, List.getElem?_cons_succ, List.getElem?_cons_zero]; rfl) (by kernel_rfl) (by kernel_rfl) (by kernel_rfl) (by exact fun _ _ _ h => h) (Or.inl ⟨by rfl, ?_⟩) (by assumption) ?_
      rotate_left
      · (intro w hSw; (try dsimp only at hSw); go_simp; try with_reducible rfl)
      try simp only [Act.put, List.setIfInBounds_toArray, List.set_cons_zero, List.set_cons_succ]
      refine wpAnyH_take (i := 14) (oi := _) (v := ?_) (by simp only [List.getElem?_toArray, List.getElem?_cons_succ, List.getElem?_cons_zero]; rfl) (by kernel_rfl) (by kernel_rfl) (by kernel_rfl) (by exact fun _ _ _ h => h) (Or.inl ⟨by rfl, ?_⟩) (by assumption) ?_
      rotate_left
      · (intro w hSw; (try dsimp only at hSw); go_simp; try with_reducible rfl)
      try simp only [Act.put, List.setIfInBounds_toArray, List.set_cons_zero, List.set_cons_succ]
      refine wpAnyH_take (i := 15) (oi := _) (v := ?_) (by simp only [List.getElem?_toArray, List.getElem?_cons_succ, List.getElem?_cons_zero]; rfl) (by kernel_rfl) (by kernel_rfl) (by kernel_rfl) (by exact fun _ _ _ h => h) (Or.inl ⟨by rfl, ?_⟩) (by assumption) ?_
      rotate_left
      · (intro w hSw; (try dsimp only at hSw); go_simp; try with_reducible rfl)
      try simp only [Act.put, List.setIfInBounds_toArray, List.set_cons_zero, List.set_cons_succ]
      refine wpAnyH_take (i := 16) (oi := _) (v := ?_) (by simp only [List.getElem?_toArray, List.getElem?_cons_succ, List.getElem?_cons_zero]; rfl) (by kernel_rfl) (by kernel_rfl) (by kernel_rfl) (by exact fun _ _ _ h => h) (Or.inl ⟨by rfl, ?_⟩) (by assumption) ?_
      rotate_left
      · (intro w hSw; (try dsimp only at hSw); go_simp; try with_reducible rfl)
      try simp only [Act.put, List.setIfInBounds_toArray, List.set_cons_zero, List.set_cons_succ]
      refine wpAnyH_take (i := 17) (oi := _) (v := ?_) (by simp only [List.getElem?_toArray, List.getElem?_cons_succ, List.getElem?_cons_zero]; rfl) (by kernel_rfl) (by kernel_rfl) (by kernel_rfl) (by exact fun _ _ _ h => h) (Or.inl ⟨by rfl, ?_⟩) (by assumption) ?_
      rotate_left
      · (intro w hSw; (try dsimp only at hSw); go_simp; try with_reducible rfl)
      try simp only [Act.put, List.setIfInBounds_toArray, List.set_cons_zero, List.set_cons_succ]
      refine wpAnyH_take (i := 18) (oi := _) (v := ?_) (by simp only [List.getElem?_toArray, List.getElem?_cons_succ, List.getElem?_cons_zero]; rfl) (by kernel_rfl) (by kernel_rfl) (by kernel_rfl) (by exact fun _ _ _ h => h) (Or.inl ⟨by rfl, ?_⟩) (by assumption) ?_
      rotate_left
      · (intro w hSw; (try dsimp only at hSw); go_simp; try with_reducible rfl)
      try simp only [Act.put, List.setIfInBounds_toArray, List.set_cons_zero, List.set_cons_succ]
      refine wpAnyH_take (i := 19) (oi := _) (v := ?_) (by simp only [List.getElem?_toArray, List.getElem?_cons_succ, List.getElem?_cons_zero]; rfl) (by kernel_rfl) (by kernel_rfl) (by kernel_rfl) (by exact fun _ _ _ h => h) (Or.inl ⟨by rfl, ?_⟩) (by assumption) ?_
      rotate_left
      · (intro w hSw; (try dsimp only at hSw); go_simp; try with_reducible rfl)
      try simp only [Act.put, List.setIfInBounds_toArray, List.set_cons_zero, List.set_cons_succ]
      refine wpAnyH_take (i := 20) (oi := _) (v := ?_) (by simp only [List.getElem?_toArray, List.getElem?_cons_succ, List.getElem?_cons_zero]; rfl) (by kernel_rfl) (by kernel_rfl) (by kernel_rfl) (by exact fun _ _ _ h => h) (Or.inl ⟨by rfl, ?_⟩) (by assumption) ?_
      rotate_left
      · (intro w hSw; (try dsimp only at hSw); go_simp; try with_reducible rfl)
      try simp only [Act.put, List.setIfInBounds_toArray, List.set_cons_zero, List.set_cons_succ]
      refine wpAnyH_take (i := 21) (oi := _) (v := ?_) (by simp only [List.getElem?_toArray, List.getElem?_cons_succ, List.getElem?_cons_zero]; rfl) (by kernel_rfl) (by kernel_rfl) (by kernel_rfl) (by exact fun _ _ _ h => h) (Or.inl ⟨by rfl, ?_⟩) (by assumption) ?_
      rotate_left
      · (intro w hSw; (try dsimp only at hSw); go_simp; try with_reducible rfl)
      try simp only [Act.put, List.setIfInBounds_toArray, List.set_cons_zero, List.set_cons_succ]
      refine wpAnyH_take (i := 22) (oi := _) (v := ?_) (by simp only [List.getElem?_toArray, List.getElem?_cons_succ, List.getElem?_cons_zero]; rfl) (by kernel_rfl) (by kernel_rfl) (by kernel_rfl) (by exact fun _ _ _ h => h) (Or.inl ⟨by rfl, ?_⟩) (by assumption) ?_
      rotate_left
      · (intro w hSw; (try dsimp only at hSw); go_simp; try with_reducible rfl)
      try simp only [Act.put, List.setIfInBounds_toArray, List.set_cons_zero, List.set_cons_succ]
      refine wpAnyH_take (i := 24) (oi := _) (v := ?_) (by simp only [List.getElem?_toArray, List.getElem?_cons_succ, List.getElem?_cons_zero]; rfl) (by kernel_rfl) (by kernel_rfl) (by kernel_rfl) (by exact fun _ _ _ h => h) (Or.inl ⟨by rfl, ?_⟩) (by assumption) ?_
      rotate_left
      · (intro w hSw; (try dsimp only at hSw); go_simp; try with_reducible rfl)
      try simp only [Act.put, List.setIfInBounds_toArray, List.set_cons_zero, List.set_cons_succ]
      refine wpAnyH_ready (rs := [23]) (by kernel_rfl) (by simp) ?_
      refine AllReadyH.cons rfl (fun K hK => ?_) AllReadyH.nil
      go_simp
      refine (HWA.out _).mono ?_
      rintro e v2 ⟨rfl, bb⟩
      have HC2 := Lib.hid (HC1.out.on bb)
      clear bb
      go_wp2_with fail
      refine hK.out _ _ (st_cells HC2.out) (fun hH2 => ?_)
      clear hK K hH1
      try simp only [Act.put, List.setIfInBounds_toArray, List.set_cons_zero, List.set_cons_succ]
      refine wpAnyH_ready (rs := [25]) (by kernel_rfl) (by simp) ?_
      refine AllReadyH.cons rfl (fun K hK => ?_) AllReadyH.nil
      go_simp
      refine (HWB.out _).mono ?_
      rintro e v3 ⟨rfl, bb⟩
      have HC3 := Lib.hid (HC2.out.on bb)
      clear bb
      go_wp2_with fail
      refine hK.out _ _ (st_cells HC3.out) (fun hH3 => ?_)
      clear hK K hH2
      try simp only [Act.put, List.setIfInBounds_toArray, List.set_cons_zero, List.set_cons_succ]
      refine wpAnyH_take (i := 26) (oi := _) (v := ?_) (by simp only [List.getElem?_toArray, List.getElem?_cons_succ, List.getElem?_cons_zero]; rfl) (by kernel_rfl) (by kernel_rfl) (by kernel_rfl) (by exact fun _ _ _ h => h) (Or.inl ⟨by rfl, ?_⟩) (by assumption) ?_
      rotate_left
      · (intro w hSw; (try dsimp only at hSw); go_simp; try with_reducible rfl)
      try simp only [Act.put, List.setIfInBounds_toArray, List.set_cons_zero, List.set_cons_succ]
      refine wpAnyH_take (i := 27) (oi := _) (v := ?_) (by simp only [List.getElem?_toArray, List.getElem?_cons_succ, List.getElem?_cons_zero]; rfl) (by kernel_rfl) (by kernel_rfl) (by kernel_rfl) (by exact fun _ _ _ h => h) (Or.inl ⟨by rfl, ?_⟩) (by assumption) ?_
      rotate_left
      · (intro w hSw; (try dsimp only at hSw); go_simp; try with_reducible rfl)
      try simp only [Act.put, List.setIfInBounds_toArray, List.set_cons_zero, List.set_cons_succ]
      refine wpAnyH_take (i := 28) (oi := _) (v := ?_) (by simp only [List.getElem?_toArray, List.getElem?_cons_succ, List.getElem?_cons_zero]; rfl) (by kernel_rfl) (by kernel_rfl) (by kernel_rfl) (by exact fun _ _ _ h => h) (Or.inl ⟨by rfl, ?_⟩) (by assumption) ?_
      rotate_left
      · (intro w hSw; (try dsimp only at hSw); go_simp; try with_reducible rfl)
      try simp only [Act.put, List.setIfInBounds_toArray, List.set_cons_zero, List.set_cons_succ]
      refine wpAnyH_take (i := 29) (oi := _) (v := ?_) (by simp only [List.getElem?_toArray, List.getElem?_cons_succ, List.getElem?_cons_zero]; rfl) (by kernel_rfl) (by kernel_rfl) (by kernel_rfl) (by exact fun _ _ _ h => h) (Or.inl ⟨by rfl, ?_⟩) (by assumption) ?_
      rotate_left
      · (intro w hSw; (try dsimp only at hSw); go_simp; try with_reducible rfl)
      try simp only [Act.put, List.setIfInBounds_toArray, List.set_cons_zero, List.set_cons_succ]
      refine wpAnyH_take (i := 30) (oi := _) (v := ?_) (by simp only [List.getElem?_toArray, List.getElem?_cons_succ, List.getElem?_cons_zero]; rfl) (by kernel_rfl) (by kernel_rfl) (by kernel_rfl) (by exact fun _ _ _ h => h) (Or.inl ⟨by rfl, ?_⟩) (by assumption) ?_
      rotate_left
      · (intro w hSw; (try dsimp only at hSw); go_simp; try with_reducible rfl)
      try simp only [Act.put, List.setIfInBounds_toArray, List.set_cons_zero, List.set_cons_succ]
      refine wpAnyH_take (i := 31) (oi := _) (v := ?_) (by simp only [List.getElem?_toArray, List.getElem?_cons_succ, List.getElem?_cons_zero]; rfl) (by kernel_rfl) (by kernel_rfl) (by kernel_rfl) (by exact fun _ _ _ h => h) (Or.inl ⟨by rfl, ?_⟩) (by assumption) ?_
      rotate_left
      · (intro w hSw; (try dsimp only at hSw); go_simp; try with_reducible rfl)
      try simp only [Act.put, List.setIfInBounds_toArray, List.set_cons_zero, List.set_cons_succ]
      refine wpAnyH_ready (rs := [32]) (by kernel_rfl) (by simp) ?_
      refine AllReadyH.cons rfl (fun K hK => ?_) AllReadyH.nil
      go_simp
      refine (keepObject_same O.kind O.tag ga qa O.fs gc qc ⟨O.tx.toArray⟩ _ ((HC3.out.rd 2 _ rfl).1) ((HC3.out.rd 3 _ rfl).1) (by omega)).mono ?_
      rintro e v4 ⟨rfl, bb⟩
      have HC4 := Lib.hid (HC3.out.on bb)
      clear bb
      go_wp2_with fail
      refine hK.out _ _ (st_cells HC4.out) (fun hH4 => ?_)
      clear hK K hH3
      try simp only [Act.put, List.setIfInBounds_toArray, List.set_cons_zero, List.set_cons_succ]
      refine wpAnyH_take (i := 33) (oi := _) (v := ?_) (by simp only [List.getElem?_toArray, List.getElem?_cons_succ, List.getElem?_cons_zero]; rfl) (by kernel_rfl) (by kernel_rfl) (by kernel_rfl) (by exact fun _ _ _ h => h) (Or.inl ⟨by rfl, ?_⟩) (by assumption) ?_
      rotate_left
      · (intro w hSw; (try dsimp only at hSw); go_simp; try with_reducible rfl)
      try simp only [Act.put, List.setIfInBounds_toArray, List.set_cons_zero, List.set_cons_succ]
      refine wpAnyH_take (i := 34) (oi := _) (v := ?_) (by simp only [List.getElem?_toArray, List.getElem?_cons_succ, List.getElem?_cons_zero]; rfl) (by kernel_rfl) (by kernel_rfl) (by kernel_rfl) (by exact fun _ _ _ h => h) (Or.inl ⟨by rfl, ?_⟩) (by assumption) ?_
      rotate_left
      · (intro w hSw; (try dsimp only at hSw); go_simp; try with_reducible rfl)
      try simp only [Act.put, List.setIfInBounds_toArray, List.set_cons_zero, List.set_cons_succ]
      refine wpAnyH_take (i := 35) (oi := _) (v := ?_) (by simp only [List.getElem?_toArray, List.getElem?_cons_succ, List.getElem?_cons_zero]; rfl) (by kernel_rfl) (by kernel_rfl) (by kernel_rfl) (by exact fun _ _ _ h => h) (Or.inl ⟨by rfl, ?_⟩) (by assumption) ?_
      rotate_left
      · (intro w hSw; (try dsimp only at hSw); go_simp; try with_reducible rfl)
      try simp only [Act.put, List.setIfInBounds_toArray, List.set_cons_zero, List.set_cons_succ]
      refine wpAnyH_take (i := 36) (oi := _) (v := ?_) (by simp only [List.getElem?_toArray, List.getElem?_cons_succ, List.getElem?_cons_zero]; rfl) (by kernel_rfl) (by kernel_rfl) (by kernel_rfl) (by exact fun _ _ _ h => h) (Or.inl ⟨by rfl, ?_⟩) (by assumption) ?_
      rotate_left
      · (intro w hSw; (try dsimp only at hSw); go_simp; try with_reducible rfl)
      try simp only [Act.put, List.setIfInBounds_toArray, List.set_cons_zero, List.set_cons_succ]
      refine wpAnyH_take (i := 37) (oi := _) (v := ?_) (by simp only [List.getElem?_toArray, List.getElem?_cons_succ, List.getElem?_cons_zero]; rfl) (by kernel_rfl) (by kernel_rfl) (by kernel_rfl) (by exact fun _ _ _ h => h) (Or.inl ⟨by rfl, ?_⟩) (by assumption) ?_
      rotate_left
      · (intro w hSw; (try dsimp only at hSw); go_simp; try with_reducible rfl)
      try simp only [Act.put, List.setIfInBounds_toArray, List.set_cons_zero, List.set_cons_succ]
      refine wpAnyH_take (i := 38) (oi := _) (v := ?_) (by simp only [List.getElem?_toArray, List.getElem?_cons_succ, List.getElem?_cons_zero]; rfl) (by kernel_rfl) (by kernel_rfl) (by kernel_rfl) (by exact fun _ _ _ h => h) (Or.inl ⟨by rfl, ?_⟩) (by assumption) ?_
      rotate_left
      · (intro w hSw; (try dsimp only at hSw); go_simp; try with_reducible rfl)
      try simp only [Act.put, List.setIfInBounds_toArray, List.set_cons_zero, List.set_cons_succ]
      refine wpAnyH_take (i := 39) (oi := _) (v := ?_) (by simp only [List.getElem?_toArray, List.getElem?_cons_succ, List.getElem?_cons_zero]; rfl) (by kernel_rfl) (by kernel_rfl) (by kernel_rfl) (by exact fun _ _ _ h => h) (Or.inl ⟨by rfl, ?_⟩) (by assumption) ?_
      rotate_left
      · (intro w hSw; (try dsimp only at hSw); go_simp; try with_reducible rfl)
      try simp only [Act.put, List.setIfInBounds_toArray, List.set_cons_zero, List.set_cons_succ]
      refine wpAnyH_take (i := 40) (oi := _) (v := ?_) (by simp only [List.getElem?_toArray, List.getElem?_cons_succ, List.getElem?_cons_zero]; rfl) (by kernel_rfl) (by kernel_rfl) (by kernel_rfl) (by exact fun _ _ _ h => h) (Or.inl ⟨by rfl, ?_⟩) (by assumption) ?_
      rotate_left
      · (intro w hSw; (try dsimp only at hSw); go_simp; try with_reducible rfl)
      try simp only [Act.put, List.setIfInBounds_toArray, List.set_cons_zero, List.set_cons_succ]
      refine wpAnyH_take (i := 41) (oi := _) (v := ?_) (by simp only [List.getElem?_toArray, List.getElem?_cons_succ, List.getElem?_cons_zero]; rfl) (by kernel_rfl) (by kernel_rfl) (by kernel_rfl) (by exact fun _ _ _ h => h) (Or.inl ⟨by rfl, ?_⟩) (by assumption) ?_
      rotate_left
      · (intro w hSw; (try dsimp only at hSw); go_simp; try with_reducible rfl)
      try simp only [Act.put, List.setIfInBounds_toArray, List.set_cons_zero, List.set_cons_succ]
      refine wpAnyH_take (i := 42) (oi := _) (v := ?_) (by simp only [List.getElem?_toArray, List.getElem?_cons_succ, List.getElem?_cons_zero]; rfl) (by kernel_rfl) (by kernel_rfl) (by kernel_rfl) (by exact fun _ _ _ h => h) (Or.inl ⟨by rfl, ?_⟩) (by assumption) ?_
      rotate_left
      · (intro w hSw; (try dsimp only at hSw); go_simp; try with_reducible rfl)
      try simp only [Act.put, List.setIfInBounds_toArray, List.set_cons_zero, List.set_cons_succ]
      refine wpAnyH_take (i := 43) (oi := _) (v := ?_) (by simp only [List.getElem?_toArray, List.getElem?_cons_succ, List.getElem?_cons_zero]; rfl) (by kernel_rfl) (by kernel_rfl) (by kernel_rfl) (by exact fun _ _ _ h => h) (Or.inl ⟨by rfl, ?_⟩) (by assumption) ?_
      rotate_left
      · (intro w hSw; (try dsimp only at hSw); go_simp; try with_reducible rfl)
      try simp only [Act.put, List.setIfInBounds_toArray, List.set_cons_zero, List.set_cons_succ]
      refine wpAnyH_take (i := 44) (oi := _) (v := ?_) (by simp only [List.getElem?_toArray, List.getElem?_cons_succ, List.getElem?_cons_zero]; rfl) (by kernel_rfl) (by kernel_rfl) (by kernel_rfl) (by exact fun _ _ _ h => h) (Or.inl ⟨by rfl, ?_⟩) (by assumption) ?_
      rotate_left
      · (intro w hSw; (try dsimp only at hSw); go_simp; try with_reducible rfl)
      try simp only [Act.put, List.setIfInBounds_toArray, List.set_cons_zero, List.set_cons_succ]
      refine wpAnyH_ready (rs := [45]) (by kernel_rfl) (by simp) ?_
      refine AllReadyH.cons rfl (fun K hK => ?_) AllReadyH.nil
      go_simp
      refine (keepInts_h (xs := L) (ys := L) (b := true) ((HC4.out.rd 4 _ rfl).1) ((HC4.out.rd 5 _ rfl).1) (by omega) (by simp)).mono ?_
      rintro e v5 ⟨rfl, bb⟩
      have HC5 := Lib.hid (HC4.out.on bb)
      clear bb
      go_wp2_with fail
      refine hK.out _ _ (st_cells HC5.out) (fun hH5 => ?_)
      clear hK K hH4
      try simp only [Act.put, List.setIfInBounds_toArray, List.set_cons_zero, List.set_cons_succ]
      refine wpAnyH_take (i := 46) (oi := _) (v := ?_) (by simp only [List.getElem?_toArray, List.getElem?_cons_succ, List.getElem?_cons_zero]; rfl) (by kernel_rfl) (by kernel_rfl) (by kernel_rfl) (by exact fun _ _ _ h => h) (Or.inl ⟨by rfl, ?_⟩) (by assumption) ?_
      rotate_left
      · (intro w hSw; (try dsimp only at hSw); go_simp; try with_reducible rfl)
      try simp only [Act.put, List.setIfInBounds_toArray, List.set_cons_zero, List.set_cons_succ]
      refine wpAnyH_take (i := 47) (oi := _) (v := ?_) (by simp only [List.getElem?_toArray, List.getElem?_cons_succ, List.getElem?_cons_zero]; rfl) (by kernel_rfl) (by kernel_rfl) (by kernel_rfl) (by exact fun _ _ _ h => h) (Or.inl ⟨by rfl, ?_⟩) (by assumption) ?_
      rotate_left
      · (intro w hSw; (try dsimp only at hSw); go_simp; try with_reducible rfl)
      try simp only [Act.put, List.setIfInBounds_toArray, List.set_cons_zero, List.set_cons_succ]
      refine wpAnyH_take (i := 48) (oi := _) (v := ?_) (by simp only [List.getElem?_toArray, List.getElem?_cons_succ, List.getElem?_cons_zero]; rfl) (by kernel_rfl) (by kernel_rfl) (by kernel_rfl) (by exact fun _ _ _ h => h) (Or.inl ⟨by rfl, ?_⟩) (by assumption) ?_
      rotate_left
      · (intro w hSw; (try dsimp only at hSw); go_simp; try with_reducible rfl)
      try simp only [Act.put, List.setIfInBounds_toArray, List.set_cons_zero, List.set_cons_succ]
      refine wpAnyH_take (i := 49) (oi := _) (v := ?_) (by simp only [List.getElem?_toArray, List.getElem?_cons_succ, List.getElem?_cons_zero]; rfl) (by kernel_rfl) (by kernel_rfl) (by kernel_rfl) (by exact fun _ _ _ h => h) (Or.inl ⟨by rfl, ?_⟩) (by assumption) ?_
      rotate_left
      · (intro w hSw; (try dsimp only at hSw); go_simp; try with_reducible rfl)
      try simp only [Act.put, List.setIfInBounds_toArray, List.set_cons_zero, List.set_cons_succ]
      refine wpAnyH_take (i := 50) (oi := _) (v := ?_) (by simp only [List.getElem?_toArray, List.getElem?_cons_succ, List.getElem?_cons_zero]; rfl) (by kernel_rfl) (by kernel_rfl) (by kernel_rfl) (by exact fun _ _ _ h => h) (Or.inl ⟨by rfl, ?_⟩) (by assumption) ?_
      rotate_left
      · (intro w hSw; (try dsimp only at hSw); go_simp; try with_reducible rfl)
      try simp only [Act.put, List.setIfInBounds_toArray, List.set_cons_zero, List.set_cons_succ]
      refine wpAnyH_take (i := 51) (oi := _) (v := ?_) (by simp only [List.getElem?_toArray, List.getElem?_cons_succ, List.getElem?_cons_zero]; rfl) (by kernel_rfl) (by kernel_rfl) (by kernel_rfl) (by exact fun _ _ _ h => h) (Or.inl ⟨by rfl, ?_⟩) (by assumption) ?_
      rotate_left
      · (intro w hSw; (try dsimp only at hSw); go_simp; try with_reducible rfl)
      try simp only [Act.put, List.setIfInBounds_toArray, List.set_cons_zero, List.set_cons_succ]
      refine wpAnyH_take (i := 52) (oi := _) (v := ?_) (by simp only [List.getElem?_toArray, List.getElem?_cons_succ, List.getElem?_cons_zero]; rfl) (by kernel_rfl) (by kernel_rfl) (by kernel_rfl) (by exact fun _ _ _ h => h) (Or.inl ⟨by rfl, ?_⟩) (by assumption) ?_
      rotate_left
      · (intro w hSw; (try dsimp only at hSw); go_simp; try with_reducible rfl)
      try simp only [Act.put, List.setIfInBounds_toArray, List.set_cons_zero, List.set_cons_succ]
      refine wpAnyH_take (i := 53) (oi := _) (v := ?_) (by simp only [List.getElem?_toArray, List.getElem?_cons_succ, List.getElem?_cons_zero]; rfl) (by kernel_rfl) (by kernel_rfl) (by kernel_rfl) (by exact fun _ _ _ h => h) (Or.inl ⟨by rfl, ?_⟩) (by assumption) ?_
      rotate_left
      · (intro w hSw; (try dsimp only at hSw); go_simp; try with_reducible rfl)
      try simp only [Act.put, List.setIfInBounds_toArray, List.set_cons_zero, List.set_cons_succ]
      refine wpAnyH_take (i := 54) (oi := _) (v := ?_) (by simp only [List.getElem?_toArray, List.getElem?_cons_succ, List.getElem?_cons_zero]; rfl) (by kernel_rfl) (by kernel_rfl) (by kernel_rfl) (by exact fun _ _ _ h => h) (Or.inl ⟨by rfl, ?_⟩) (by assumption) ?_
      rotate_left
      · (intro w hSw; (try dsimp only at hSw); go_simp; try with_reducible rfl)
      try simp only [Act.put, List.setIfInBounds_toArray, List.set_cons_zero, List.set_cons_succ]
      refine wpAnyH_take (i := 55) (oi := _) (v := ?_) (by simp only [List.getElem?_toArray, List.getElem?_cons_succ, List.getElem?_cons_zero]; rfl) (by kernel_rfl) (by kernel_rfl) (by kernel_rfl) (by exact fun _ _ _ h => h) (Or.inl ⟨by rfl, ?_⟩) (by assumption) ?_
      rotate_left
      · (intro w hSw; (try dsimp only at hSw); go_simp; try with_reducible rfl)
      try simp only [Act.put, List.setIfInBounds_toArray, List.set_cons_zero, List.set_cons_succ]
      refine wpAnyH_take (i := 56) (oi := _) (v := ?_) (by simp only [List.getElem?_toArray, List.getElem?_cons_succ, List.getElem?_cons_zero]; rfl) (by kernel_rfl) (by kernel_rfl) (by kernel_rfl) (by exact fun _ _ _ h => h) (Or.inl ⟨by rfl, ?_⟩) (by assumption) ?_
      rotate_left
      · (intro w hSw; (try dsimp only at hSw); go_simp; try with_reducible rfl)
      try simp only [Act.put, List.setIfInBounds_toArray, List.set_cons_zero, List.set_cons_succ]
      refine wpAnyH_take (i := 57) (oi := _) (v := ?_) (by simp only [List.getElem?_toArray, List.getElem?_cons_succ, List.getElem?_cons_zero]; rfl) (by kernel_rfl) (by kernel_rfl) (by kernel_rfl) (by exact fun _ _ _ h => h) (Or.inl ⟨by rfl, ?_⟩) (by assumption) ?_
      rotate_left
      · (intro w hSw; (try dsimp only at hSw); go_simp; try with_reducible rfl)
      try simp only [Act.put, List.setIfInBounds_toArray, List.set_cons_zero, List.set_cons_succ]
      refine wpAnyH_take (i := 59) (oi := _) (v := ?_) (by simp only [List.getElem?_toArray, List.getElem?_cons_succ, List.getElem?_cons_zero]; rfl) (by kernel_rfl) (by kernel_rfl) (by kernel_rfl) (by exact fun _ _ _ h => h) (Or.inl ⟨by rfl, ?_⟩) (by assumption) ?_
      rotate_left
      · (intro w hSw; (try dsimp only at hSw); go_simp; try with_reducible rfl)
      try simp only [Act.put, List.setIfInBounds_toArray, List.set_cons_zero, List.set_cons_succ]
      refine wpAnyH_take (i := 60) (oi := _) (v := ?_) (by simp only [List.getElem?_toArray, List.getElem?_cons_succ, List.getElem?_cons_zero]; rfl) (by kernel_rfl) (by kernel_rfl) (by kernel_rfl) (by exact fun _ _ _ h => h) (Or.inl ⟨by rfl, ?_⟩) (by assumption) ?_
      rotate_left
      · (intro w hSw; (try dsimp only at hSw); go_simp; try with_reducible rfl)
      try simp only [Act.put, List.setIfInBounds_toArray, List.set_cons_zero, List.set_cons_succ]
      refine wpAnyH_ready (rs := [58]) (by kernel_rfl) (by simp) ?_
      refine AllReadyH.cons rfl (fun K hK => ?_) AllReadyH.nil
      go_simp
      refine (good_to HC5.out.ha HSZ.out).mono ?_
      rintro e v6 ⟨rfl, bb⟩
      have HC6 := Lib.hid (HC5.out.on bb)
      clear bb
      go_wp2_with fail
      refine hK.out _ _ (st_cells HC6.out) (fun hH6 => ?_)
      clear hK K hH5
      try simp only [Act.put, List.setIfInBounds_toArray, List.set_cons_zero, List.set_cons_succ]
      refine wpAnyH_take (i := 61) (oi := _) (v := ?_) (by simp only [List.getElem?_toArray, List.getElem?_cons_succ, List.getElem?_cons_zero]; rfl) (by kernel_rfl) (by kernel_rfl) (by kernel_rfl) (by exact fun _ _ _ h => h) (Or.inl ⟨by rfl, ?_⟩) (by assumption) ?_
      rotate_left
      · (intro w hSw; (try dsimp only at hSw); go_simp; try with_reducible rfl)
      try simp only [Act.put, List.setIfInBounds_toArray, List.set_cons_zero, List.set_cons_succ]
      refine wpAnyH_take (i := 62) (oi := _) (v := ?_) (by simp only [List.getElem?_toArray, List.getElem?_cons_succ, List.getElem?_cons_zero]; rfl) (by kernel_rfl) (by kernel_rfl) (by kernel_rfl) (by exact fun _ _ _ h => h) (Or.inl ⟨by rfl, ?_⟩) (by assumption) ?_
      rotate_left
      · (intro w hSw; (try dsimp only at hSw); go_simp; try with_reducible rfl)
      try simp only [Act.put, List.setIfInBounds_toArray, List.set_cons_zero, List.set_cons_succ]
      refine wpAnyH_done (by kernel_rfl) ?_ _
      go_wp2_with fail
      go_meet
      exact ⟨rfl, HC6.out⟩
  case rest =>
    obtain ⟨rfl, hst⟩ := hcut
    have HST := Lib.hid hst
    clear hst
    have g0 : wc.cell? ⟨B2, 0, none⟩ = some (.int .i64 3) := ((HST.out.row 2 _ rfl).cell 0).trans rfl
    have g1 : wc.cell? ⟨B2, 1, none⟩ = some (.int .i64 half) := ((HST.out.row 2 _ rfl).cell 1).trans rfl
    have g2 : wc.cell? ⟨B2, 2, none⟩ = some (.int .i64 space) := ((HST.out.row 2 _ rfl).cell 2).trans rfl
    have g3 : wc.cell? ⟨B2, 3, none⟩ = some (.int .i64 top) := ((HST.out.row 2 _ rfl).cell 3).trans rfl
    go_wp2_with fail
    refine (good_nil _ 3 half space top).mono ?_
    rintro e w11 ⟨rfl, b11⟩
    have HS11 := Lib.hid (HST.out.on b11)
    clear b11 g0 g1 g2 g3
    have o0 : w11.cell? ⟨B3, 0, none⟩ = some (.int .i64 k) := ((HS11.out.row 3 _ rfl).cell 0).trans rfl
    have o1 : w11.cell? ⟨B3, 1, none⟩ = some (.int .i64 t) := ((HS11.out.row 3 _ rfl).cell 1).trans rfl
    have o2 : w11.cell? ⟨B3, 2, none⟩ = some (.slice ob xs.length od) := ((HS11.out.row 3 _ rfl).cell 2).trans rfl
    have o3 : w11.cell? ⟨B3, 3, none⟩ = some (.string s) := ((HS11.out.row 3 _ rfl).cell 3).trans rfl
    have q0 : w11.cell? ⟨B0, 0, none⟩ = some (.int .i64 k) := ((HS11.out.row 0 _ rfl).cell 0).trans rfl
    have q1 : w11.cell? ⟨B0, 1, none⟩ = some (.int .i64 t) := ((HS11.out.row 0 _ rfl).cell 1).trans rfl
    have q2 : w11.cell? ⟨B0, 2, none⟩ = some (.slice oa xs.length oc) := ((HS11.out.row 0 _ rfl).cell 2).trans rfl
    have q3 : w11.cell? ⟨B0, 3, none⟩ = some (.string s) := ((HS11.out.row 0 _ rfl).cell 3).trans rfl
    go_wp2_with fail
    refine (keepObject_same k t ob oa xs od oc s _ ((HS11.out.rd 1 _ rfl).1) ((HS11.out.rd 0 _ rfl).1) (by omega)).mono ?_
    rintro e w12 ⟨rfl, b12⟩
    have HS12 := Lib.hid (HS11.out.on b12)
    clear b12 o0 o1 o2 o3 q0 q1 q2 q3
    have a0 : w12.cell? ⟨B1, 0, none⟩ = some (.pointer (some ⟨p, 0, none⟩)) := ((HS12.out.row 1 _ rfl).cell 0).trans rfl
    have a1 : w12.cell? ⟨B1, 1, none⟩ = some (.pointer (some ⟨p2, 0, none⟩)) := ((HS12.out.row 1 _ rfl).cell 1).trans rfl
    go_wp2_with fail
    have HSM : Hid (Calls Try.prog 25 #[.agg #[.pointer (some ⟨p, 0, none⟩), .pointer (some ⟨p2, 0, none⟩)], .int .i64 3] w12 fun e w' => e = .returned (.bool true) ∧ Below w12.heap.size w12 w') := by
      obtain ⟨bw, rv, hR, _⟩ := HS12.out.hg
      obtain ⟨f1, f2, f3⟩ := laid_first ws
      exact same_any HS12.out.ha hR f3 f1 f2 (by omega)
    refine (HSM.out).mono ?_
    rintro e w13 ⟨rfl, b13⟩
    have HS13 := Lib.hid (HS12.out.on b13)
    clear b13 a0 a1 HSM
    go_wp2_with fail
    refine (wakes_any _).mono ?_
    rintro e w14 ⟨rfl, b14⟩
    have HS14 := Lib.hid (HS13.out.on b14)
    clear b14
    go_wp2_with fail
    go_ret
    exact ⟨rfl, HS14.out.hb⟩

theorem walk (sa : Option Addr) (sc : Nat) (ws : List Int) (z0 half space top k t : Int) (oa : Option Addr) (oc : Nat) (xs : List Int) (s : ByteArray) (x : Int) (W : World)
    (hr : readsAt W (.slice sa ws.length sc) ws.length (wordsL ws)) (hw : ∀ y ∈ ws, (Lit.int .u64 y).wf = true) (_ : ws.length ≤ maxLen) (_ : (Lit.int .i64 k).wf = true) (_ : (Lit.int .i64 t).wf = true)
    (hro : readsAt W (.slice oa xs.length oc) xs.length (wordsL xs)) (_ : ∀ y ∈ xs, (Lit.int .u64 y).wf = true) (_ : xs.length ≤ maxLen) (_ : s.size ≤ maxLen) (hx : (Lit.int .u64 x).wf = true) :
    Calls Try.prog 3 #[.agg #[.slice sa ws.length sc, .int .i64 z0, .int .i64 half, .int .i64 space, .int .i64 top], obj k t oa xs.length oc s, .int .u64 x] W fun e w' => e = .returned (.bool true) ∧ Below W.heap.size W w' := by
  by_cases h1 : ws.length ≤ 400
  · by_cases h2 : 600 < xs.length ∨ 800 < s.size
    · exact long _ _ _ _ _ _ _ _ _ _ _ _ _ _ _ h1 h2
    · exact short _ _ _ _ _ _ _ _ _ _ _ _ _ _ _ h1 (by omega) hr (fun y hy => wf_fitW (hw y hy)) hro (wf_fitW hx)
  · exact large _ _ _ _ _ _ _ _ _ _ _ _ _ _ _ (by omega)

theorem contract (H : Type) (enc : TypeId × Value → H) (W : World) (base : Nat) (args : Array Value) (ds gs : List (DataW H)) (before : List MemPlace)
    (hval0 : ∀ (j : Nat) t v, Try.f3.params[j]? = some t → args[j]? = some v → Value.okWide Try.prog W .any base t v)
    (hW : DataW.Whole enc Try.prog Try.f3.params.toList Rows.objectTellsSpec.vars false W args.toList ds gs before) :
    Calls Try.prog 3 args W fun e W' => ∃ v, e = .returned v ∧ Rows.objectTellsSpec.post enc Try.prog Try.f3 false true false false W args v W' := by
  have hW' := hW
  have hval := hval0
  obtain ⟨p, q, hA0, hV, rfl, hfz, hnd⟩ := hW
  have hA : DataW.TrodAll enc Try.prog W 0 (fun _ => true) true Try.f3.params.toList args.toList ds p := hA0
  rw [Try.params3] at hA hval
  obtain ⟨rfl, rfl⟩ := trodVars_none hV
  obtain ⟨v0, vs0, d0, ds0, p0, q0, hargs, rfl, rfl, h0, r0⟩ := trodAll_cons hA
  obtain ⟨v1, vs1, d1, ds1, p1, q1, rfl, rfl, rfl, h1, r1⟩ := trodAll_cons r0
  obtain ⟨v2, vs2, d2, ds2, p2, q2, rfl, rfl, rfl, h2, r2⟩ := trodAll_cons r1
  obtain ⟨rfl, rfl, rfl⟩ := trodAll_nil r2
  obtain rfl : args = #[v0, v1, v2] := by cases args; simp_all
  obtain ⟨f0_0, f0_1, j0_0, j0_1, j0_2, j0_3, hs0, hh0, ho0, hc0, ht0, u0_0, u0_1, u0_2, u0_3⟩ := under_raw
  obtain ⟨sa0, sc0, xs0, z0_0, z0_1, z0_2, z0_3, rfl, hr0, hx0, hm0, _, _, _, _⟩ := open_raw (th := 24) hs0 hh0 ho0 hc0 (by kernel_rfl) (by rw [ht0]; exact Try.underlying22) Try.underlying29 (by kernel_rfl) u0_0 u0_1 u0_2 u0_3 (hval 0 26 v0 rfl rfl) h0
  obtain ⟨f1_0, f1_1, f1_2, f1_3, hs1, ho1, u1_0, u1_1, u1_2, u1_3⟩ := under_object
  obtain ⟨k1, g1, sa1, sc1, xs1, s1, rfl, wk1, wg1, hr1, hx1, hm1, hn1⟩ := open_obj hs1 ho1 (by kernel_rfl) u1_0 u1_1 (by rw [u1_2]; exact Try.underlying22) Try.underlying29 (by kernel_rfl) u1_3 (hval 1 28 v1 rfl rfl) h1
  obtain ⟨a2, rfl, rfl, rfl, w2⟩ := open_int Try.underlying29 (hval 2 29 v2 rfl rfl) h2
  refine (walk sa0 sc0 xs0 z0_0 z0_1 z0_2 z0_3 k1 g1 sa1 sc1 xs1 s1 a2 W hr0 hx0 hm0 wk1 wg1 hr1 hx1 hm1 hn1 w2).mono fun e W' ⟨he, hb⟩ => ?_
  subst he
  exact ⟨_, rfl, law_post laidOut (by kernel_rfl) rfl (by kernel_rfl) Try.underlying4 hW' rfl rfl rfl hb⟩

set_option maxRecDepth 100000 in
theorem lifted (os : Os) (started : os.Started) (H : Type) (enc : TypeId × Value → H) :
    ReturnsInHanded {} Try.checked os 3 .any (Rows.objectTellsSpec.pre6 enc Try.prog Try.f3 Rows.objectTellsRow.domain false) (Rows.objectTellsSpec.post enc Try.prog Try.f3 false true false false) := by
  refine returnsInHanded_of_change (C := Try.checked) own started (by kernel_rfl) Try.func3
    (ChangeSpec.witness6 (enc := enc) (C := Try.checked) false ⟨#[], #[.agg #[.slice none 0 0, .int .i64 0, .int .i64 0, .int .i64 0, .int .i64 0], .agg #[.int .i64 0, .int .i64 0, .slice none 0 0, .string ⟨#[]⟩], .int .u64 0], []⟩ 8 (by kernel_rfl) (by kernel_rfl) (by kernel_rfl) (by kernel_rfl)) ?_
  intro W base args ds gs before hval hW _ _
  exact contract H enc W base args ds gs before hval hW

theorem over : Rows.objectTellsRow.holds Try.pinned (OpenSpec.ofChange Rows.objectTellsSpec) :=
  OpenClaim.holds_of_wide 3 Try.f3 rfl rfl rfl rfl rfl rfl rfl ⟨rfl, rfl, rfl, rfl, rfl⟩ rfl rfl rfl rfl rfl (by kernel_rfl) Try.func3 (by kernel_rfl)
    (of_decide_eq_true (by kernel_rfl)) (by unfold Func.isWrapper; first | (rw [if_pos (by decide +kernel)]; kernel_rfl) | (rw [if_neg (by decide +kernel)]; exact ⟨rfl, rfl⟩))
    (fun os started H enc _ => lifted os started H enc)

theorem proved : Rows.ObjectTellsSaid := over
#print axioms proved
end Go.Proofs.Ytejbblhlbilpnaa.objectTells
