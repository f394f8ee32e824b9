/-
  All objects of a heap, as the document tells them (stockpotref03.All): where the heap lies.
  Conditions: as each states.
-/
import Derived.Test.YtejbblhlbilpnaaZReI
import Derived.Test.YtejbblhlbilpnaaZOwnO
namespace Go.Proofs.Ytejbblhlbilpnaa
set_option linter.unusedVariables false
set_option linter.unusedSimpArgs false
open Go.ChangeShapes Go.WideShapes Go.ChangeAt Go.RowKit
set_option maxRecDepth 100000

theorem starts_length : ∀ (obs : List Ob) (k : Nat), (starts k obs).length = obs.length
  | [], _ => rfl
  | o :: os, k => by simp [starts, starts_length os]
theorem starts_snoc : ∀ (obs : List Ob) (k : Nat) (o : Ob), starts k (obs ++ [o]) = starts k obs ++ [k + (flat obs).length]
  | [], k, o => by simp [starts, flat]
  | p :: os, k, o => by
    rw [List.cons_append, starts, starts_snoc os, starts, flat_cons, List.length_append, p.lay_length]
    simp only [List.cons_append]
    rw [show k + p.words + (flat os).length = k + (p.words + (flat os).length) by omega]
theorem starts_get : ∀ (obs : List Ob) (k j : Nat) (h : j < obs.length), (starts k obs)[j]? = some (k + (flat (obs.take j)).length)
  | [], _, _, h => by simp at h
  | p :: os, k, 0, _ => by simp [starts, flat]
  | p :: os, k, j + 1, h => by
    rw [starts, List.getElem?_cons_succ, starts_get os _ j (by simpa using h), List.take_succ_cons, flat_cons, List.length_append, p.lay_length]
    congr 1
    omega
theorem flat_drop (obs : List Ob) (j : Nat) (h : j < obs.length) : (flat obs).drop (flat (obs.take j)).length = obs[j].lay ++ flat (obs.drop (j + 1)) := by
  have e : obs = obs.take j ++ obs[j] :: obs.drop (j + 1) := by rw [← List.drop_eq_getElem_cons h, List.take_append_drop]
  conv => lhs; rw [e]
  rw [flat_append, List.take_left' (by rw [List.length_take]; omega), List.drop_left, flat_cons]

theorem len_le_flat : ∀ obs : List Ob, obs.length ≤ (flat obs).length
  | [] => Nat.le_refl _
  | p :: r => by rw [flat_cons, List.length_append, p.lay_length, List.length_cons]; have := p.words_pos; have := len_le_flat r; omega

def startsI (obs : List Ob) : List Int := (starts 0 obs).map fun (j : Nat) => (j : Int)
/-- The world of the document's 'All': the heap's box, the answer's, the places' so far, which words begin objects. -/
structure AlS (w : World) (base half space top : Int) (pb T : Nat) (done : List Ob) (a : Option Addr) (c : Nat) (W : World) : Prop where
  box : rowAt W w.heap.size 24 [.int .i64 base, .int .i64 half, .int .i64 space, .int .i64 top]
  res : rowAt W (w.heap.size + 1) 51 [.slice none 0 0, .bool false]
  pl : rowAt W pb 51 [.slice a done.length c, .bool true]
  beg : rowAt W (pb + 1) 4 (bools (marks done ++ List.replicate (T + 1 - (flat done).length) false))
  own : W.ownsRow (pb + 2) 3 1 (.slice a done.length c) done.length (intsL (startsI done))
  low : w.heap.size + 1 < pb
  below : Below w.heap.size w W
theorem AlS.on {w : World} {base half space top : Int} {pb T : Nat} {done : List Ob} {a : Option Addr} {c : Nat} {W W' : World} (h : AlS w base half space top pb T done a c W) (hb : Below W.heap.size W W') : AlS w base half space top pb T done a c W' :=
  ⟨h.box.below hb h.box.lt, h.res.below hb h.res.lt, h.pl.below hb h.pl.lt, h.beg.below hb h.beg.lt, owns_below h.own hb fun g hg => (h.own.lt g hg).2, h.low, bl_call h.below hb⟩
theorem bl_call' {w W W1 : World} (h : Below w.heap.size w W) (k : Below W.heap.size W W1) : Below w.heap.size w W1 := below_chain h k


/-- The world behind an append to the places, and the store of what came of it. -/
theorem AlS.step {w w3 w5 : World} {base half space top : Int} {pb T : Nat} {done : List Ob} {a : Option Addr} {c : Nat} {o : Ob} {rb : List Value} {TR : TypeId} (h : AlS w base half space top pb T done a c w3) (hT : (flat done).length + o.words ≤ T)
    {a' : Option Addr} {c' : Nat}
    (hown : w5.ownsRow (pb + 2) 3 1 (.slice a' (done.length + 1) c') (done.length + 1) (intsL (startsI done) ++ [.int .i64 ((flat done).length : Int)]))
    (hgrow : (((w3.setCell ⟨pb + 1, (flat done).length, none⟩ (.bool true)).alloc (.cells ⟨rb⟩ TR)).alloc (.cells #[.int .i64 ((flat done).length : Int)] 3)).grownBy w5 (Value.slice a done.length c).ownBlock) :
    rowAt w5 pb 51 [.slice a done.length c, .bool true] ∧ rowAt w5 w3.heap.size TR rb ∧ rowAt (w5.setCell ⟨pb, 0, none⟩ (.slice a' (done.length + 1) c')) w3.heap.size TR rb ∧
    AlS w base half space top pb T (done ++ [o]) a' c' (w5.setCell ⟨pb, 0, none⟩ (.slice a' (done.length + 1) c')) := by
  have hlow := h.low
  have hb1 := h.beg.lt
  have hp1 := h.pl.lt
  have hg : ∀ g, (Value.slice a done.length c).ownBlock = some g → pb + 2 ≤ g ∧ g < w3.heap.size := fun g hg => h.own.lt g hg
  have keep : ∀ k, k < pb + 2 ∨ k = w3.heap.size → w5.heap[k]? = (((w3.setCell ⟨pb + 1, (flat done).length, none⟩ (.bool true)).alloc (.cells ⟨rb⟩ TR)).alloc (.cells #[.int .i64 ((flat done).length : Int)] 3)).heap[k]? := fun k hk => by
    refine hgrow.block k (by simp; omega) fun e => ?_
    have := hg k e.symm
    omega
  have ne1 : w.heap.size ≠ pb + 1 := by omega
  have ne2 : w.heap.size + 1 ≠ pb + 1 := by omega
  have ne3 : pb ≠ pb + 1 := by omega
  have box5 : rowAt w5 w.heap.size 24 _ := (((h.box.other ⟨pb + 1, (flat done).length, none⟩ (.bool true) ne1).alloc _).alloc _).of_heap (keep _ (by omega))
  have res5 : rowAt w5 (w.heap.size + 1) 51 _ := (((h.res.other ⟨pb + 1, (flat done).length, none⟩ (.bool true) ne2).alloc _).alloc _).of_heap (keep _ (by omega))
  have pl5 : rowAt w5 pb 51 _ := (((h.pl.other ⟨pb + 1, (flat done).length, none⟩ (.bool true) ne3).alloc _).alloc _).of_heap (keep _ (by omega))
  have rb5 : rowAt w5 w3.heap.size TR rb := ((rowAt.made_at TR rb (by simp)).alloc _).of_heap (keep _ (by omega))
  have beg5 : rowAt w5 (pb + 1) 4 _ := (((h.beg.set (flat done).length (.bool true)).alloc _).alloc _).of_heap (keep _ (by omega))
  have hms := marks_step done o (T + 1) (flat done).length rfl (by omega)
  have hfl : (flat (done ++ [o])).length = (flat done).length + o.words := by rw [flat_append, List.length_append]; simp [flat, o.lay_length]
  have b5 : Below w.heap.size w w5 := (bl_alloc (bl_alloc (bl_set h.below (by show w.heap.size ≤ pb + 1; omega) _) _) _).grown hgrow (by have := h.below.size; simp; omega) (fun q hq => by have := hg q hq; omega)
  refine ⟨pl5, rb5, rb5.other _ _ (by show w3.heap.size ≠ pb; omega), ⟨box5.other _ _ (by show w.heap.size ≠ pb; omega), res5.other _ _ (by show w.heap.size + 1 ≠ pb; omega), ?_, ?_, ?_, hlow, bl_set b5 (by show w.heap.size ≤ pb; omega) _⟩⟩
  · have h1 := pl5.set 0 (.slice a' (done.length + 1) c')
    rw [List.length_append]
    exact h1
  · refine rowAt.other ?_ _ _ (by show pb + 1 ≠ pb; omega)
    rw [← List.map_set, hms, ← hfl] at beg5
    exact beg5
  · have e : intsL (startsI (done ++ [o])) = intsL (startsI done) ++ [.int .i64 ((flat done).length : Int)] := by
      unfold startsI
      rw [starts_snoc, Nat.zero_add]
      simp
    rw [e, List.length_append]
    exact owns_set' hown _ _ (by show pb < pb + 2; omega)

theorem fieldOk_ref {fi : Int} (h0 : 0 ≤ fi) (obs : List Ob) {x : Int} (hx : wIs x = false) : fieldOk fi obs x = decide (0 ≤ wRefAt x - fi ∧ (objAt obs (wRefAt x - fi).toNat).isSome = true) := by
  unfold fieldOk
  rw [hx, Bool.or_false]
  have hodd : ¬ x % 2 = 1 := by unfold wIs at hx; exact of_decide_eq_false hx
  by_cases hk : x % 2 = 0 ∧ x ≤ 8589934590
  · have e1 : wRefAt x = wAt x := by unfold wRefAt wAt; rw [if_pos hk, if_pos hk]
    have e2 : wOk x = true := decide_eq_true hk
    rw [e1]
    unfold refers
    rw [e2, Bool.true_and]
    by_cases hf : fi ≤ wAt x
    · rw [decide_eq_true hf, Bool.true_and]
      cases ho : (objAt obs (wAt x - fi).toNat).isSome with
      | true => rw [if_pos rfl]; symm; simp; omega
      | false => rw [if_neg (by decide)]; symm; simp
    · rw [decide_eq_false hf, Bool.false_and, if_neg (by decide)]
      symm
      simp
      omega
  · have e1 : wRefAt x = -1 := by unfold wRefAt; rw [if_neg hk]
    have e2 : wOk x = false := decide_eq_false hk
    unfold refers
    rw [e1, e2, Bool.false_and, Bool.false_and, if_neg (by decide)]
    symm
    simp
    omega
theorem wRefAt_bounds {x : Int} (h : fitW x) : -1 ≤ wRefAt x ∧ wRefAt x ≤ 4294967295 := by
  unfold wRefAt
  have := h.1
  split <;> omega
/-- The places, the first i of them moved to where they are in the region. -/
def shL (fi : Int) (i : Nat) (L : List Nat) : List Int := ((L.take i).map fun (j : Nat) => (j : Int) + fi) ++ (L.drop i).map fun (j : Nat) => (j : Int)
structure ShS (w : World) (base half space top : Int) (pb : Nat) (done : List Ob) (a : Option Addr) (c : Nat) (i : Nat) (W : World) : Prop where
  box : rowAt W w.heap.size 24 [.int .i64 base, .int .i64 half, .int .i64 space, .int .i64 top]
  res : rowAt W (w.heap.size + 1) 51 [.slice none 0 0, .bool false]
  pl : rowAt W pb 51 [.slice a done.length c, .bool true]
  own : W.ownsRow (pb + 2) 3 1 (.slice a done.length c) done.length (intsL (shL (space * half) i (starts 0 done)))
  low : w.heap.size + 1 < pb
  below : Below w.heap.size w W
theorem ShS.start {w : World} {base half space top : Int} {pb T : Nat} {done : List Ob} {a : Option Addr} {c : Nat} {W : World} (h : AlS w base half space top pb T done a c W) : ShS w base half space top pb done a c 0 W :=
  ⟨h.box, h.res, h.pl, by have e : shL (space * half) 0 (starts 0 done) = startsI done := by simp [shL, startsI]
                          rw [e]; exact h.own, h.low, h.below⟩
theorem ShS.step {w : World} {base half space top : Int} {pb : Nat} {done : List Ob} {c i g : Nat} {rst : List Value} {W : World} (h : ShS w base half space top pb done (some ⟨g, 0, none⟩) c i W) (hi : i < done.length) (hrow : rowAt W g 3 (intsL (shL (space * half) i (starts 0 done)) ++ rst)) (hg : pb + 2 ≤ g)
    (hl2 : (intsL (shL (space * half) i (starts 0 done))).length + rst.length = c * 1) (hcp : done.length ≤ c) (hcm : c ≤ maxLen) :
    W.cell? ⟨g, i, none⟩ = some (.int .i64 ((((starts 0 done).getD i 0 : Nat)) : Int)) ∧ W.frozen? ⟨g, i, none⟩ = false ∧
    ShS w base half space top pb done (some ⟨g, 0, none⟩) c (i + 1) (W.setCell ⟨g, i, none⟩ (.int .i64 ((((starts 0 done).getD i 0 : Nat) : Int) + space * half))) := by
  have hsl := starts_length done 0
  have hlow := h.low
  have hlen : (shL (space * half) i (starts 0 done)).length = done.length := by unfold shL; simp [hsl]; omega
  have hgi : (starts 0 done)[i]'(by rw [hsl]; exact hi) = (starts 0 done).getD i 0 := by rw [List.getD_eq_getElem?_getD, List.getElem?_eq_getElem (by rw [hsl]; exact hi)]; rfl
  have hdr : (starts 0 done).drop i = (starts 0 done).getD i 0 :: (starts 0 done).drop (i + 1) := by rw [← hgi]; exact List.drop_eq_getElem_cons (by rw [hsl]; exact hi)
  have htk : ((starts 0 done).take i).length = i := by rw [List.length_take, hsl]; omega
  have hset : (shL (space * half) i (starts 0 done)).set i (((starts 0 done).getD i 0 : Nat) + space * half) = shL (space * half) (i + 1) (starts 0 done) := by
    unfold shL
    rw [List.set_append_right _ _ (by rw [List.length_map, htk]; exact Nat.le_refl _), List.length_map, htk, Nat.sub_self, hdr, List.map_cons, List.set_cons_zero, List.take_succ_eq_append_getElem (by rw [hsl]; exact hi), hgi]
    simp
  have hget : (shL (space * half) i (starts 0 done))[i]? = some (((starts 0 done).getD i 0 : Nat) : Int) := by
    unfold shL
    rw [List.getElem?_append_right (by rw [List.length_map, htk]; exact Nat.le_refl _), List.length_map, htk, Nat.sub_self, hdr]
    rfl
  have hrs := hrow.set i (.int .i64 (((starts 0 done).getD i 0 : Nat) + space * half))
  rw [List.set_append_left _ _ (by simp [hlen]; omega), ← List.map_set, hset] at hrs
  have hlen2 : (shL (space * half) (i + 1) (starts 0 done)).length = done.length := by rw [← hset, List.length_set, hlen]
  refine ⟨by rw [hrow.cell, List.getElem?_append_left (by simp [hlen]; omega), List.getElem?_map, hget]; rfl, hrow.free i, ⟨h.box.other _ _ (by show w.heap.size ≠ g; omega), h.res.other _ _ (by show w.heap.size + 1 ≠ g; omega), h.pl.other _ _ (by show pb ≠ g; omega), ?_, hlow, bl_set h.below (by show w.heap.size ≤ g; omega) _⟩⟩
  exact owns_mk hrs hg (by simp [hlen2]) (by simp [hlen] at hl2; simp [hlen2]; omega) hcp hcm
theorem ShS.drew {w : World} {base half space top : Int} {pb : Nat} {done : List Ob} {a : Option Addr} {c i : Nat} {W : World} (h : ShS w base half space top pb done a c i W) : ShS w base half space top pb done a c i W.drew := ⟨h.box, h.res, h.pl, h.own, h.low, bl_drew h.below⟩
theorem ShS.done {w : World} {base half space top : Int} {pb : Nat} {done : List Ob} {a : Option Addr} {c : Nat} {W : World} (h : ShS w base half space top pb done a c done.length W) (x y : Value) :
    ((W.setCell ⟨w.heap.size + 1, 0, none⟩ x).setCell ⟨w.heap.size + 1, 1, none⟩ y).ownsRow w.heap.size 3 1 (.slice a done.length c) done.length (intsL ((starts 0 done).map fun (j : Nat) => space * half + (j : Int))) := by
  have hlow := h.low
  have e : shL (space * half) done.length (starts 0 done) = (starts 0 done).map fun (j : Nat) => space * half + (j : Int) := by
    unfold shL
    rw [← starts_length done 0, List.take_of_length_le (Nat.le_refl _), List.drop_eq_nil_of_le (Nat.le_refl _), List.map_nil, List.append_nil]
    apply List.map_congr_left
    intro j _
    omega
  have h1 := h.own
  rw [e] at h1
  exact owns_base (owns_set' (owns_set' h1 _ _ (by show w.heap.size + 1 < pb + 2; omega)) _ _ (by show w.heap.size + 1 < pb + 2; omega)) fun g hg => by have := (h1.lt g hg).1; omega

theorem fs_le {o : Ob} (h : o.may = true) : o.fs.length ≤ 400 := by
  obtain ⟨h1, h2⟩ := Ob.may_split h
  have hb := mayH_bounds h2
  unfold hasH at h1
  unfold Ob.size sizeH at hb
  by_cases hk : o.kind = 2
  · simp only [hk, if_true, decide_eq_true_eq] at h1
    omega
  · simp only [hk, if_false] at hb
    omega
theorem run_field_read (w : World) (k t : Int) (a : Option Addr) (n c : Nat) (s : ByteArray) (b : Bool) : (Instr.field 45 (readV k t a n c s b) 0).run Try.prog w = .ok (obj k t a n c s) w := by kernel_rfl
theorem run_field_fs (w : World) (k t : Int) (a : Option Addr) (n c : Nat) (s : ByteArray) : (Instr.field 28 (obj k t a n c s) 2).run Try.prog w = .ok (.slice a n c) w := by kernel_rfl

set_option maxHeartbeats 16000000 in
theorem reAll_yes {w : World} {p bw : Nat} {rv : Value} {A : Ar} (h : RefIn w p bw rv A) (base half space top : Int) (hl : A.liesB base half space top = true) :
    Calls Try.prog 17 #[.pointer (some ⟨p, 0, none⟩), heapV base half space top] w (AllT A base half space top w) := by
  have q : ∀ (w : World) (a : Option Addr) (n c n' c' : Nat), (binOp .eql 22 (.slice a n c) (.slice none n' c')).run Try.prog w = .ok (.bool a.isNone) w := fun w a n c n' c' => Lib.run_eql_slice_nil w _ _ a n c n' c' under_words
  have HREF : Hid (∀ W, Below w.heap.size w W → RefIn W p bw rv A) := fun W hb => RefIn.upon h (Upon.of_below hb) fun _ _ h => (h : False)
  have hn := lies_nums hl
  obtain ⟨ws, hws⟩ : ∃ ws, ws = A.semi base half space top := ⟨_, rfl⟩
  obtain ⟨T, hT⟩ : ∃ T, T = top.toNat := ⟨_, rfl⟩
  obtain ⟨lo, hlo⟩ : ∃ lo, lo = (base + space * half).toNat := ⟨_, rfl⟩
  have hwl : ws.length = T := by rw [hws, hT]; exact semi_length h.ok hl
  have hwf : ∀ x ∈ ws, fitW x := by rw [hws]; exact semi_fit h.ok _ _ _ _
  have HSE : Hid (∀ W, RefIn W p bw rv A → Calls Try.prog 50 #[.pointer (some ⟨p, 0, none⟩), heapV base half space top] W (SemiT bw lo T W)) := fun W hW => by rw [hlo, hT]; exact semi_any hW hl
  have HAT : Hid (∀ (W : World) (o' : Nat) (i : Int), (T = 0 ∨ o' = lo) → RefIn W p bw rv A → Calls Try.prog 46 #[.slice (some ⟨bw, o', none⟩) T T, .int .i64 i] W (ReadT (readP ws i) W)) := fun W o' i ho hW => by
    have hr := semi_reads hW hl (o' := o') (by rw [← hT, ← hlo]; exact ho)
    rw [← hws, ← hT, ← hwl] at hr
    have := reAt_any hr (Nat.le_refl _) hwf (by omega) i
    rw [hwl] at this
    exact this
  have HOBJ : Hid (A.objs base half space top = match parse ws.length ws with | some obs => if fieldsOk (space * half) obs then some obs else none | none => none) := by
    show _ = _
    unfold Ar.objs
    rw [if_pos hl, ← hws]
    cases parse ws.length ws <;> rfl
  have HWL := Lib.hid hwl
  have HWF := Lib.hid hwf
  have hT2 : T ≤ 2000 := by omega
  have hmb : ∀ w : World, (Instr.makeSlice 94 (.int .i64 ((T : Int) + 1)) (.int .i64 ((T : Int) + 1))).run Try.prog w = .ok (.slice (some ⟨w.heap.size, 0, none⟩) (T + 1) (T + 1)) (w.alloc (.cells ⟨List.replicate (T + 1) (.bool false)⟩ 4)) := fun w => by
    have h := make_bools (T + 1) (by omega) w
    have e : ((T + 1 : Nat) : Int) = (T : Int) + 1 := by omega
    rw [e] at h
    exact h
  have hfi : 0 ≤ space * half ∧ space * half ≤ 2000 := by omega
  obtain ⟨hf0, hf1⟩ := hfi
  have HFI : Hid (space * half ≤ 2000) := hf1
  obtain ⟨i0, hi0, hz0, hz1, hz2⟩ := info_parts info_int'
  have HL := Lib.hid hl
  clear hws hT hlo hwl hwf hl h hn
  go_enter Try.func17, Try.ntmps17
  go_wp2_with fail
  refine (HSE.out _ (HREF.out _ (bl_alloc (bl_alloc (Below.refl _ _) _) _))).mono ?_
  rintro e w1 ⟨⟨o', rfl, ho⟩, b1⟩
  have r3 : rowAt w1 w.heap.size 24 [.int .i64 base, .int .i64 half, .int .i64 space, .int .i64 top] := ((rowAt.made w _ _).alloc _).below b1 (by simp <;> omega)
  have r4 : rowAt w1 (w.heap.size + 1) 51 [.slice none 0 0, .bool false] := (rowAt.made_at (w := w.alloc _) _ _ (by simp)).below b1 (by simp <;> omega)
  have HB : Hid (Below w.heap.size w w1) := bl_call (bl_alloc (bl_alloc (Below.refl _ _) _) _) b1
  have HO := Lib.hid ho
  have c0 := r3.cell 0
  have c1 := r3.cell 1
  have c2 := r3.cell 2
  have c3 := r3.cell 3
  have hz1' := r4.lt
  simp only [List.getElem?_cons_zero, List.getElem?_cons_succ] at c0 c1 c2 c3
  have R3 := Lib.hid r3
  have R4 := Lib.hid r4
  clear r3 r4 b1 ho
  go_wp2
  go_quiet (fail)
  rename_i nq
  obtain ⟨W2, hW2⟩ : ∃ W2, W2 = w1.drewN nq := ⟨_, rfl⟩
  rw [← hW2]
  have HB2 : Hid (Below w.heap.size w W2) := by rw [hW2]; exact bl_drewN HB.out nq
  have R32 : Hid (rowAt W2 w.heap.size 24 [.int .i64 base, .int .i64 half, .int .i64 space, .int .i64 top]) := by rw [hW2]; exact R3.out
  have R42 : Hid (rowAt W2 (w.heap.size + 1) 51 [.slice none 0 0, .bool false]) := by rw [hW2]; exact R4.out
  have hz2' : w.heap.size + 1 < W2.heap.size := R42.out.lt
  clear hW2 HB R3 R4 c0 c1 c2 c3 hz1'
  go_wp2
  obtain ⟨W0, hW0⟩ : ∃ W0, W0 = (W2.alloc (.cells #[.slice none 0 0, .bool true] 51)).alloc (.cells (Array.replicate (T + 1) (.bool false)) 4) := ⟨_, rfl⟩
  rw [← hW0]
  have S0 : Hid (AlS w base half space top W2.heap.size T [] none 0 W0) := by
    rw [hW0]
    refine ⟨(R32.out.alloc _).alloc _, (R42.out.alloc _).alloc _, (rowAt.made W2 _ _).alloc _, ?_, ⟨rfl, .inl ⟨rfl, rfl⟩⟩, hz2', bl_alloc (bl_alloc HB2.out _) _⟩
    have h5 := rowAt.made_arr (W2.alloc (.cells #[.slice none 0 0, .bool true] 51)) 4 (Array.replicate (T + 1) (.bool false)) (List.replicate (T + 1) (.bool false)) (by simp)
    simpa [marks, flat] using h5
  clear hW0 R32 R42 HB2 hz2' hmb q
  generalize W2.heap.size = pb at *
  go_loopw [8] (fun v wr => ∃ done a c, v = .int .i64 ((flat done).length : Int) ∧ Hid (AllOk done ∧ (∃ rest, ws = flat done ++ rest) ∧ AlS w base half space top pb T done a c wr)) (fun v _ => T - (intOf v).toNat)
  case atStart => exact ⟨[], none, 0, rfl, (fun _ h => by cases h), ⟨ws, rfl⟩, S0.out⟩
  case round =>
    clear S0
    obtain ⟨done, a, c, rfl, HA⟩ := hrel
    by_cases hlt : (flat done).length < T
    · go_wp2_with fail
      refine (HAT.out _ _ _ HO.out (HREF.out _ HA.out.2.2.below)).mono ?_
      rintro e w3 ⟨b3, ⟨o, a2, c2, s, hq, hs, rfl, how⟩ | ⟨hq, rfl⟩⟩
      · obtain ⟨hok, ⟨rest, hrest⟩, hal⟩ := HA.out
        have hal3 := hal.on b3
        have hdr : ws.drop (flat done).length = rest := by rw [hrest, List.drop_left]
        have hq2 : decode rest = some o := by
          have h1 := hq
          unfold readP at h1
          rw [if_pos (by omega), Int.toNat_natCast, hdr] at h1
          exact h1
        obtain ⟨hmay, hfit, hrs⟩ := decode_some (fun x hx => HWF.out x (by rw [hrest]; exact List.mem_append_right _ hx)) hq2
        have hlen : (flat done).length + o.words ≤ T := by
          have h1 := HWL.out
          rw [hrest, hrs, List.length_append, List.length_append, o.lay_length] at h1
          omega
        have HNEW : Hid (AllOk (done ++ [o]) ∧ ∃ rest, ws = flat (done ++ [o]) ++ rest) := by
          refine ⟨fun x hx => ?_, rest.drop o.words, ?_⟩
          · rcases List.mem_append.1 hx with hx | hx
            · exact hok x hx
            · rw [List.mem_singleton] at hx
              subst hx
              exact ⟨hmay, hfit⟩
          · have e : flat (done ++ [o]) = flat done ++ o.lay := by rw [flat_append]; simp [flat]
            rw [e, List.append_assoc, ← hrs]
            exact hrest
        have HWR : Hid (wordsR o.kind o.tag o.fs.length s.size = o.words) := by
          have hsz : s.size = o.tx.length := by rw [← hs, Lib.size_eq]
          show _ = _
          rw [hsz]
          unfold wordsR
          rw [if_pos (show headR o.kind o.tag o.fs.length o.tx.length = true from hmay)]
          rfl
        have HLEN := Lib.hid hlen
        have e1 : w3.cell? ⟨pb + 1, (flat done).length, none⟩ = some (.bool false) := by
          rw [hal3.beg.cell, List.getElem?_map, List.getElem?_append_right (by rw [marks_length]; exact Nat.le_refl _), marks_length, Nat.sub_self, List.getElem?_replicate, if_pos (by omega)]
          rfl
        have f1 := hal3.beg.free (flat done).length
        have l1 := hal3.beg.lt
        have e2 := hal3.pl.cell 0
        have f2 := hal3.pl.free 0
        have l2 := hal3.pl.lt
        simp only [List.getElem?_cons_zero] at e2
        have HA3 := Lib.hid hal3
        have HHOW := Lib.hid how
        have HDL : Hid (done.length ≤ T) := by
          show _ ≤ _
          have := len_le_flat done
          omega
        clear hok hrest hal hal3 hdr hq2 hmay hfit hrs hlen hq how b3 HA hs
        go_wp2_with (at_builtin; refine wpList_append_any rfl _ _ 47 rfl (pb + 2) 3 i0 (.int .i64 0) 1 8 under_ints hi0 hz0 hz1 hz2 rfl (by decide) _ done.length (intsL (startsI done)) rfl (owns_alloc' (owns_alloc' (owns_set' HA3.out.own _ _ (Nat.lt_succ_self (pb + 1))) _) _) (some ⟨w3.heap.size + 1, 0, none⟩) 1 1 [.int .i64 ((flat done).length : Int)] rfl rfl ?q1 ?q2 ?q3 ?q4 ?q5 ?_)
        case q1 => exact .inr ⟨_, rfl, fun j u hj => by rw [Addr.add_lit, (rowAt.made_at 3 [.int .i64 ((flat done).length : Int)] (by simp)).cell, Nat.zero_add]; exact hj⟩
        case q2 => intro u hu; simp at hu; subst hu; rfl
        case q3 => simp only [maxLen]; have := HDL.out; omega
        case q4 => have := HDL.out; omega
        case q5 => simp; omega
        intro v' w5 hown hgrow hblk
        obtain ⟨a', c', rfl⟩ := owns_slice hown
        obtain ⟨g1, g0, g2, g3⟩ := AlS.step (rb := [.int .i64 o.kind, .int .i64 o.tag, .slice a2 o.fs.length c2, .string s, .bool true]) (TR := 45) HA3.out HLEN.out hown hgrow
        have G2 := Lib.hid g2
        have G3 := Lib.hid g3
        have e3 := g1.cell 0
        have f3 := g1.free 0
        have l3 := g1.lt
        simp only [List.getElem?_cons_zero] at e3
        have c0 := g0.cell 0
        have c1 := g0.cell 1
        have c2' := g0.cell 2
        have c3 := g0.cell 3
        have l9 := g0.lt
        simp only [List.getElem?_cons_zero, List.getElem?_cons_succ] at c0 c1 c2' c3
        have ne1 : w3.heap.size ≠ pb := by omega
        have ne2 : pb ≠ w3.heap.size := by omega
        clear hown hgrow hblk g0 g1 g2 g3 e1 e2 f1 f2 l1 l2 HA3
        go_wp2_with fail
        obtain ⟨W6, hW6⟩ : ∃ W6, W6 = w5.setCell ⟨pb, 0, none⟩ (.slice a' (done.length + 1) c') := ⟨_, rfl⟩
        rw [← hW6]
        have S6 : Hid (AlS w base half space top pb T (done ++ [o]) a' c' W6) := by rw [hW6]; exact G3.out
        clear hW6 G2 G3 e3 f3 l3 c0 c1 c2' c3 l9 ne1 ne2
        refine (reWords_any o.kind o.tag a2 o.fs.length c2 s _).mono ?_
        rintro e w7 ⟨rfl, b7⟩
        have S7 := Lib.hid (S6.out.on b7)
        rw [HWR.out]
        have hl7 := HLEN.out
        clear b7 S6
        go_wp2
        go_roundw
        case rel =>
          refine ⟨done ++ [o], a', c', ?_, HNEW.out.1, HNEW.out.2, S7.out⟩
          have e : (flat (done ++ [o])).length = (flat done).length + o.words := by rw [flat_append, List.length_append]; simp [flat, o.lay_length]
          rw [e]
          simp
        case measure => simp [intOf]; have := o.words_pos; omega
      · obtain ⟨hok, ⟨rest, hrest⟩, hal⟩ := HA.out
        have hal3 := hal.on b3
        have HNO : Hid (A.objs base half space top = none) := by
          show _ = none
          rw [HOBJ.out]
          have hdr : ws.drop (flat done).length = rest := by rw [hrest, List.drop_left]
          have hq2 : decode rest = none := by
            have h1 := hq
            unfold readP at h1
            rw [if_pos (by omega), Int.toNat_natCast, hdr] at h1
            exact h1
          cases hr : rest with
          | nil =>
            exfalso
            have h1 := HWL.out
            rw [hrest, hr, List.append_nil] at h1
            omega
          | cons x r =>
            rw [hr] at hq2
            have := parse_stop hok hq2 ws.length
            rw [← hr, ← hrest] at this
            rw [this]
        have HB3 := Lib.hid hal3.below
        have z0 := hal3.res.cell 0
        have z1 := hal3.res.cell 1
        have y0 := hal3.res.free 0
        have y1 := hal3.res.free 1
        have lz := hal3.res.lt
        simp only [List.getElem?_cons_zero, List.getElem?_cons_succ] at z0 z1
        clear hok hrest hal hal3 hq b3 HA
        go_wp2
        refine bodyPost_ret (v := placesV none 0 0 false) ?hres1 ?hdef1 ?hpost1
        case hdef1 => rfl
        case hres1 => simp [results, Try.results17, go_sem, lz, z0, z1]
        refine ⟨?_, .inr ⟨HNO.out, rfl⟩⟩
        repeat (first | exact HB3.out | refine bl_alloc ?_ _ | refine bl_set ?_ (by simp) _)
    · obtain ⟨hok, ⟨rest, hrest⟩, hal⟩ := HA.out
      have hwd : ws = flat done := by
        have h1 := HWL.out
        rw [hrest, List.length_append] at h1
        have : rest = [] := List.length_eq_zero_iff.1 (by omega)
        rw [hrest, this, List.append_nil]
      have hdl : (flat done).length = T := by rw [← hwd]; exact HWL.out
      have HOK := Lib.hid hok
      have HWD := Lib.hid hwd
      have HDL := Lib.hid hdl
      have SA := Lib.hid hal
      have e0 := hal.pl.cell 0
      have l0 := hal.pl.lt
      simp only [List.getElem?_cons_zero] at e0
      have hdt : done.length ≤ T := by rw [← hdl]; exact len_le_flat done
      clear hok hrest hwd hal HA hdl
      obtain ⟨wo, rfl⟩ : ∃ wo : World, wo = wr := ⟨_, rfl⟩
      go_wp2
      go_loopw [10] (fun v wr => ∃ (k : Nat), v = .int .i64 (k : Int) ∧ k ≤ done.length ∧ Hid (AlS w base half space top pb T done a c wr ∧ (∀ o ∈ done.take k, o.fs.all (fieldOk (space * half) done) = true))) (fun v _ => done.length - (intOf v).toNat)
      case atStart => exact ⟨0, rfl, Nat.zero_le _, SA.out, fun o ho => by cases ho⟩
      case round =>
        obtain ⟨k, rfl, hk, HK⟩ := hrel
        obtain ⟨wo2, rfl⟩ : ∃ wo2 : World, wo2 = wr := ⟨_, rfl⟩
        have e0 := HK.out.1.pl.cell 0
        have l0 := HK.out.1.pl.lt
        simp only [List.getElem?_cons_zero] at e0
        by_cases hlt2 : k < done.length
        · have HDK : Hid (readP ws ((flat (done.take k)).length : Int) = some done[k]) := by
            show _ = _
            unfold readP
            rw [if_pos (by omega), Int.toNat_natCast, HWD.out, flat_drop done k hlt2]
            exact decode_lay (HOK.out _ (List.getElem_mem hlt2)).1 _
          have HFK : Hid (∀ x ∈ done[k].fs, fitW x) := (HOK.out _ (List.getElem_mem hlt2)).2
          rcases owns_parts HK.out.1.own with ⟨_, h0, _⟩ | ⟨g, cap, rst, hv, hg, hrow, _⟩
          · omega
          injection hv with hv1 hv2 hv3
          subst hv1 hv3
          have e5 : wo2.cell? ⟨g, k, none⟩ = some (.int .i64 ((flat (done.take k)).length : Int)) := by
            have h1 := starts_get done 0 k hlt2
            rw [hrow.cell, List.getElem?_append_left (by simp [startsI, starts_length]; exact hlt2), List.getElem?_map]
            unfold startsI
            rw [List.getElem?_map, h1, Nat.zero_add]
            rfl
          have HSK := Lib.hid HK.out.1
          have HFD := Lib.hid HK.out.2
          have hat := HAT.out wo2 o' ((flat (done.take k)).length : Int) HO.out (HREF.out _ HSK.out.below)
          rw [HDK.out] at hat
          have HAT2 := Lib.hid hat
          clear hat hrow hv2 HK HDK
          generalize hLK : ((flat (done.take k)).length : Int) = LK at *
          clear hLK
          go_wp2_with fail
          refine HAT2.out.mono ?_
          rintro e w8 ⟨b8, ⟨oo, a8, c8, s8, hq8, hs8, rfl, how8⟩ | ⟨hq8, rfl⟩⟩
          · have HOO : Hid (oo = done[k]) := (Option.some.inj hq8).symm
            have hf1 := run_field_read
            have hf2 := run_field_fs
            have S8 := Lib.hid (HSK.out.on b8)
            have HROW := Lib.hid (readsAt.of_owns how8)
            have hfs4 : oo.fs.length ≤ 400 := by rw [HOO.out]; exact fs_le (HOK.out _ (List.getElem_mem hlt2)).1
            have HFX : Hid (∀ x ∈ oo.fs, fitW x) := by show ∀ x ∈ oo.fs, fitW x; rw [HOO.out]; exact HFK.out
            clear hq8 hs8 how8 HSK HAT2 e5 e0 l0 HFK b8
            go_wp2
            clear hf1 hf2
            go_loopw [12] (fun v wr => ∃ (j m : Nat), v = .int .i64 (j : Int) ∧ j ≤ oo.fs.length ∧ wr = w8.drewN m ∧ Hid ((oo.fs.take j).all (fieldOk (space * half) done) = true)) (fun v _ => oo.fs.length - (intOf v).toNat)
            case atStart => exact ⟨0, 0, rfl, Nat.zero_le _, rfl, rfl⟩
            case round =>
              obtain ⟨j, m, rfl, hj, rfl, HJ⟩ := hrel
              by_cases hlt3 : j < oo.fs.length
              · obtain ⟨_, _, e9, hrd⟩ := HROW.out
                cases e9
                rcases hrd with h0 | ⟨bb, ob, rfl, hcell⟩
                · omega
                have e9 : w8.cell? ⟨bb, ob + j, none⟩ = some (.int .u64 oo.fs[j]) := hcell j _ (by rw [List.getElem?_map, List.getElem?_eq_getElem hlt3]; rfl)
                have hfx := HFX.out _ (List.getElem_mem hlt3)
                have HTK := Lib.hid (List.take_succ_eq_append_getElem hlt3)
                have HMEM : Hid (oo.fs[j] ∈ done[k].fs ∧ done[k] ∈ done) := ⟨by rw [← HOO.out]; exact List.getElem_mem hlt3, List.getElem_mem hlt2⟩
                obtain ⟨x, hx⟩ : ∃ x, x = oo.fs[j] := ⟨_, rfl⟩
                rw [← hx] at e9 hfx HTK HMEM
                clear hx hcell
                have HFXX := Lib.hid hfx
                cases hwi : wIs x with
                | true =>
                  have hI := refIs_any x hfx.1 (by have := hfx.2; omega)
                  rw [hwi] at hI
                  have HI := Lib.hid hI
                  have HOK3 : Hid ((oo.fs.take (j + 1)).all (fieldOk (space * half) done) = true) := by
                    show _ = true
                    rw [HTK.out, List.all_append, HJ.out]
                    unfold fieldOk
                    simp [hwi]
                  clear hI hwi hfx
                  go_wp2_with fail
                  refine (HI.out _).mono ?_
                  rintro e w9 ⟨rfl, rfl⟩
                  go_wp2
                  go_roundw
                  case rel => exact ⟨j + 1, m, by simp, by omega, rfl, HOK3.out⟩
                  case measure => simp [intOf]; omega
                | false =>
                  have hI := refIs_any x hfx.1 (by have := hfx.2; omega)
                  rw [hwi] at hI
                  have HI := Lib.hid hI
                  have HRA : Hid (∀ W, Calls Try.prog 48 #[.int .u64 x] W fun e w' => e = .returned (.int .i64 (wRefAt x)) ∧ w' = W) := fun W => (refAt_any x hfx.1 (by have := hfx.2; omega) W).mono fun _ _ h => ⟨h.1, h.2.symm⟩
                  have HFO := Lib.hid (fieldOk_ref hf0 done hwi)
                  obtain ⟨hb0, hb1⟩ := wRefAt_bounds hfx
                  clear hI hwi hfx
                  generalize wRefAt x = Y at *
                  go_wp2_with fail
                  refine (HI.out _).mono ?_
                  rintro e w9 ⟨rfl, rfl⟩
                  go_wp2
                  obtain ⟨wq, hwq⟩ : ∃ wq, wq = w8.drewN m := ⟨_, rfl⟩
                  rw [← hwq]
                  have SQ : Hid (AlS w base half space top pb T done (some ⟨g, 0, none⟩) c wq) := by rw [hwq]; exact S8.out.on (below_draws (Below.refl _ _) m)
                  have e10 : wq.cell? ⟨bb, ob + j, none⟩ = some (.int .u64 x) := by rw [hwq]; exact e9
                  have HWQ := Lib.hid hwq
                  clear hwq
                  have c1 := SQ.out.box.cell 1
                  have c2 := SQ.out.box.cell 2
                  simp only [List.getElem?_cons_zero, List.getElem?_cons_succ] at c1 c2
                  go_quiet ((go_at_call 48; exact Calls.quiet_of_same (HRA.out _)))
                  have z0 := SQ.out.res.cell 0
                  have z1 := SQ.out.res.cell 1
                  have y0 := SQ.out.res.free 0
                  have y1 := SQ.out.res.free 1
                  have lz := SQ.out.res.lt
                  simp only [List.getElem?_cons_zero, List.getElem?_cons_succ] at z0 z1
                  have hyb : -2001 ≤ Y - space * half ∧ Y - space * half ≤ 4294967295 := by omega
                  generalize Y - space * half = y at HFO hyb ⊢
                  obtain ⟨hyb1, hyb2⟩ := hyb
                  by_cases hy0 : y < 0
                  · have HNO : Hid (A.objs base half space top = none) := by
                      show _ = none
                      have hff : fieldsOk (space * half) done = false := by
                        unfold fieldsOk
                        rw [List.all_eq_false]
                        refine ⟨done[k], HMEM.out.2, ?_⟩
                        intro hall
                        rw [List.all_eq_true] at hall
                        have h1 := hall x HMEM.out.1
                        rw [HFO.out] at h1
                        have h2 := of_decide_eq_true h1
                        omega
                      rw [HOBJ.out, HWD.out, parse_flat done _ HOK.out (Nat.le_refl _)]
                      simp only [hff]
                      rfl
                    go_wp2
                    refine bodyPost_ret (v := placesV none 0 0 false) ?hres2 ?hdef2 ?hpost2
                    case hdef2 => rfl
                    case hres2 => simp [results, Try.results17, go_sem, lz, z0, z1]
                    refine ⟨?_, .inr ⟨HNO.out, rfl⟩⟩
                    repeat (first | refine bl_set ?_ (by simp) _ | refine bl_alloc ?_ _ | exact bl_drewN SQ.out.below _)
                  obtain ⟨yn, rfl⟩ := Int.eq_ofNat_of_zero_le (a := y) (by omega)
                  clear hy0
                  by_cases hyT : T ≤ yn
                  · have d2 : decide (T ≤ yn) = true := decide_eq_true hyT
                    have HNO : Hid (A.objs base half space top = none) := by
                      show _ = none
                      have hff : fieldsOk (space * half) done = false := by
                        unfold fieldsOk
                        rw [List.all_eq_false]
                        refine ⟨done[k], HMEM.out.2, ?_⟩
                        intro hall
                        rw [List.all_eq_true] at hall
                        have h1 := hall x HMEM.out.1
                        rw [HFO.out] at h1
                        have h2 := of_decide_eq_true h1
                        rw [Int.toNat_natCast] at h2
                        obtain ⟨o3, ho3⟩ := Option.isSome_iff_exists.1 h2.2
                        have := objAt_lt ho3
                        have := HDL.out
                        omega
                      rw [HOBJ.out, HWD.out, parse_flat done _ HOK.out (Nat.le_refl _)]
                      simp only [hff]
                      rfl
                    go_wp2
                    refine bodyPost_ret (v := placesV none 0 0 false) ?hres3 ?hdef3 ?hpost3
                    case hdef3 => rfl
                    case hres3 => simp [results, Try.results17, go_sem, lz, z0, z1]
                    refine ⟨?_, .inr ⟨HNO.out, rfl⟩⟩
                    repeat (first | refine bl_set ?_ (by simp) _ | refine bl_alloc ?_ _ | exact bl_drewN SQ.out.below _)
                  have d2 : decide (T ≤ yn) = false := decide_eq_false hyT
                  have t3 : yn < T + 1 := by omega
                  have lb := SQ.out.beg.lt
                  have eb : wq.cell? ⟨pb + 1, yn, none⟩ = some (.bool (objAt done yn).isSome) := by
                    have h1 := marks_get done yn (by have := HDL.out; omega)
                    have h2 : yn < (marks done).length := (List.getElem?_eq_some_iff.1 h1).1
                    rw [SQ.out.beg.cell, List.getElem?_map, List.getElem?_append_left h2, h1]
                    rfl
                  cases hob : (objAt done yn).isSome with
                  | false =>
                    rw [hob] at eb
                    have HOB := Lib.hid hob
                    clear hob
                    have HNO : Hid (A.objs base half space top = none) := by
                      show _ = none
                      have hff : fieldsOk (space * half) done = false := by
                        unfold fieldsOk
                        rw [List.all_eq_false]
                        refine ⟨done[k], HMEM.out.2, ?_⟩
                        intro hall
                        rw [List.all_eq_true] at hall
                        have h1 := hall x HMEM.out.1
                        rw [HFO.out] at h1
                        have h2 := of_decide_eq_true h1
                        rw [Int.toNat_natCast, HOB.out] at h2
                        exact absurd h2.2 (by decide)
                      rw [HOBJ.out, HWD.out, parse_flat done _ HOK.out (Nat.le_refl _)]
                      simp only [hff]
                      rfl
                    go_wp2
                    refine bodyPost_ret (v := placesV none 0 0 false) ?hres4 ?hdef4 ?hpost4
                    case hdef4 => rfl
                    case hres4 => simp [results, Try.results17, go_sem, lz, z0, z1]
                    refine ⟨?_, .inr ⟨HNO.out, rfl⟩⟩
                    repeat (first | refine bl_set ?_ (by simp) _ | refine bl_alloc ?_ _ | exact bl_drewN SQ.out.below _)
                  | true =>
                    rw [hob] at eb
                    have HOK3 : Hid ((oo.fs.take (j + 1)).all (fieldOk (space * half) done) = true) := by
                      show _ = true
                      rw [HTK.out, List.all_append, HJ.out]
                      simp only [List.all_cons, List.all_nil, Bool.and_true, Bool.true_and]
                      rw [HFO.out, Int.toNat_natCast, hob]
                      exact decide_eq_true ⟨by omega, rfl⟩
                    have HWN : Hid (∀ n, wq.drewN n = w8.drewN (m + n)) := fun n => by rw [HWQ.out, World.drewN_drewN]
                    clear hob
                    go_wp2
                    go_roundw
                    case rel => exact ⟨j + 1, _, by simp, by omega, HWN.out _, HOK3.out⟩
                    case measure => simp [intOf]; omega
              · obtain rfl : j = oo.fs.length := by omega
                have HALL : Hid (∀ o ∈ done.take (k + 1), o.fs.all (fieldOk (space * half) done) = true) := by
                  intro o ho
                  rw [List.take_succ_eq_append_getElem hlt2, List.mem_append, List.mem_singleton] at ho
                  rcases ho with ho | rfl
                  · exact HFD.out o ho
                  · rw [← HOO.out]
                    have := HJ.out
                    rwa [List.take_of_length_le (Nat.le_refl _)] at this
                have S9 : Hid (AlS w base half space top pb T done (some ⟨g, 0, none⟩) c (w8.drewN m)) := S8.out.on (below_draws (Below.refl _ _) m)
                go_wp2
                go_roundw
                case rel => exact ⟨k + 1, by simp, by omega, S9.out, HALL.out⟩
                case measure => simp [intOf]; omega
          · cases hq8
        · obtain rfl : k = done.length := by omega
          have HOBS : Hid (A.objs base half space top = some done) := by
            show _ = _
            have hff : fieldsOk (space * half) done = true := by
              unfold fieldsOk
              rw [List.all_eq_true]
              have h1 := HK.out.2
              rw [List.take_of_length_le (Nat.le_refl _)] at h1
              exact h1
            rw [HOBJ.out, HWD.out, parse_flat done _ HOK.out (Nat.le_refl _)]
            simp only [hff, if_true]
          have SK := Lib.hid HK.out.1
          clear HK hlt2
          go_wp2
          go_loopw [14] (fun v wr => ∃ (i : Nat), v = .int .i64 (i : Int) ∧ i ≤ done.length ∧ Hid (ShS w base half space top pb done a c i wr)) (fun v _ => done.length - (intOf v).toNat)
          case atStart => exact ⟨0, rfl, Nat.zero_le _, ShS.start SK.out⟩
          case round =>
            obtain ⟨i, rfl, hi, HI⟩ := hrel
            have e0 := HI.out.pl.cell 0
            have l0 := HI.out.pl.lt
            simp only [List.getElem?_cons_zero] at e0
            by_cases hlt4 : i < done.length
            · rcases owns_parts HI.out.own with ⟨_, h0, _⟩ | ⟨g, cap, rst, hv, hg, hrow, hl1, hl2, hcp, hcm⟩
              · omega
              injection hv with hv1 hv2 hv3
              subst hv1 hv3
              obtain ⟨x1, x2, x3⟩ := ShS.step HI.out hlt4 hrow hg hl2 hcp hcm
              have X3 := Lib.hid x3
              have c1 := HI.out.box.cell 1
              have c2 := HI.out.box.cell 2
              have lb := HI.out.box.lt
              simp only [List.getElem?_cons_zero, List.getElem?_cons_succ] at c1 c2
              have hsb : (starts 0 done).getD i 0 ≤ 2000 := by
                have h1 := starts_get done 0 i hlt4
                rw [List.getD_eq_getElem?_getD, h1]
                have h2 : (flat (done.take i)).length ≤ (flat done).length := by
                  conv => rhs; rw [← List.take_append_drop i done, flat_append, List.length_append]
                  omega
                have := HDL.out
                simp only [Option.getD_some]
                omega
              generalize (starts 0 done).getD i 0 = sv at *
              clear hrow hl1 hl2 hcp hcm hv2 x3 HI
              obtain ⟨wo3, rfl⟩ : ∃ wo3 : World, wo3 = wr := ⟨_, rfl⟩
              go_wp2
              go_region
              all_goals
                go_wp2
                go_roundw
                case rel => exact ⟨i + 1, by simp, by omega, X3.out.drew⟩
                case measure => simp [intOf]; omega
            · obtain rfl : i = done.length := by omega
              have z0 := HI.out.res.cell 0
              have z1 := HI.out.res.cell 1
              have y0 := HI.out.res.free 0
              have y1 := HI.out.res.free 1
              have lz := HI.out.res.lt
              have e1 := HI.out.pl.cell 1
              simp only [List.getElem?_cons_zero, List.getElem?_cons_succ] at z0 z1 e1
              have hlow := HI.out.low
              have HPL : Hid (A.placesI base half space top = (starts 0 done).map fun (j : Nat) => space * half + (j : Int)) := by
                show _ = _
                unfold Ar.placesI
                rw [HOBS.out]
              have HIO := Lib.hid HI.out
              clear HI
              go_wp2
              refine bodyPost_ret (v := placesV a done.length c true) (by simp [results, Try.results17, go_sem, lz, z0, z1]) rfl ⟨?_, .inl ⟨done, a, c, HOBS.out, ?_, ?_⟩⟩
              · repeat (first | exact HIO.out.below | refine bl_set ?_ (by simp) _)
              · rw [HPL.out, List.length_map, starts_length]
              · rw [HPL.out, List.length_map, starts_length]
                exact ShS.done HIO.out _ _
end Go.Proofs.Ytejbblhlbilpnaa
