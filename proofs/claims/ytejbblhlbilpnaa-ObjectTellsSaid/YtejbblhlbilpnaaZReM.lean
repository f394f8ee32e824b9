/-
  The object of a word, as the document tells it (stockpotref03.Get): where there is one.
  Conditions: as each states.
-/
import Derived.Test.YtejbblhlbilpnaaZReL
import Derived.StillTailTactics
import Derived.Test.YtejbblhlbilpnaaZOwnOb
namespace Go.Proofs.Ytejbblhlbilpnaa
set_option linter.unusedVariables false
set_option linter.unusedSimpArgs false
open Go.ChangeShapes Go.WideShapes Go.ChangeAt Go.RowKit
set_option maxRecDepth 100000

theorem refers_int {first : Int} {obs : List Ob} {x : Int} (h : wIs x = true) : refers first obs x = none := by
  unfold refers
  have : wOk x = false := by
    unfold wIs at h
    have := of_decide_eq_true h
    exact decide_eq_false (by omega)
  rw [this, Bool.false_and, Bool.false_and]
  rfl

theorem region_reads {W : World} {p bw : Nat} {rv : Value} {A : Ar} (h : RefIn W p bw rv A) {b n E c : Nat} (hf : A.find (b : Int) = some n) (hE : E ≤ n) :
    readsAt W (.slice (some ⟨bw, b, none⟩) E c) E (wordsL ((A.region (b : Int)).take E)) := by
  refine ⟨_, _, rfl, .inr ⟨bw, b, rfl, fun j u hj => ?_⟩⟩
  have hb := h.ok.bound hf
  rw [h.words.cell, List.getElem?_map]
  simp only [wordsL, List.getElem?_map, Ar.region, hf] at hj
  rw [List.getElem?_take] at hj
  split at hj
  · rw [List.getElem?_take, if_pos (by omega), List.getElem?_drop] at hj
    simpa using hj
  · cases hj

set_option maxHeartbeats 8000000 in
theorem reGet_yes {w : World} {p bw : Nat} {rv : Value} {A : Ar} (h : RefIn w p bw rv A) (base half space top x : Int) (hx : fitW x) {o : Ob} (hyes : A.getOb base half space top x = some o) :
    Calls Try.prog 15 #[.pointer (some ⟨p, 0, none⟩), heapV base half space top, .int .u64 x] w (ReadT (some o) w) := by
  have hok := h.ok
  have key : ∃ obs m, A.objs base half space top = some obs ∧ refers (space * half) obs x = some m ∧ objAt obs m = some o := by
    unfold Ar.getOb at hyes
    cases ho : A.objs base half space top with
    | none => rw [ho] at hyes; cases hyes
    | some obs =>
      rw [ho] at hyes
      simp only at hyes
      cases hr : refers (space * half) obs x with
      | none => rw [hr] at hyes; cases hyes
      | some m => rw [hr] at hyes; exact ⟨obs, m, rfl, hr, hyes⟩
  obtain ⟨obs0, m, ho0, hr0, hm0⟩ := key
  have hl := (objs_ok hok ho0).2.2.2
  have hn := lies_nums hl
  have hfd := lies_find hl
  have hbd := hok.bound hfd
  have hmx := hok.max
  obtain ⟨b, rfl⟩ := Int.eq_ofNat_of_zero_le hbd.1
  obtain ⟨E, hE⟩ := Int.eq_ofNat_of_zero_le (a := space * half + top) (by omega)
  obtain ⟨n, hnn⟩ : ∃ n, n = (2 * half).toNat := ⟨_, rfl⟩
  rw [← hnn] at hfd hbd
  have hEn : E ≤ n := by omega
  have hwi : wIs x = false := by
    cases hw : wIs x with
    | false => rfl
    | true => rw [refers_int hw] at hr0; cases hr0
  have hI := refIs_any x hx.1 (by have := hx.2; omega)
  rw [hwi] at hI
  have HI := Lib.hid hI
  have HRA : Hid (∀ W, Calls Try.prog 48 #[.int .u64 x] W fun e w' => e = .returned (.int .i64 (wRefAt x)) ∧ w' = W) := fun W => (refAt_any x hx.1 (by have := hx.2; omega) W).mono fun _ _ h => ⟨h.1, h.2.symm⟩
  have HREF : Hid (∀ W, Below w.heap.size w W → RefIn W p bw rv A) := fun W hb => RefIn.upon h (Upon.of_below hb) fun _ _ h => (h : False)
  have HWD : Hid (∀ W, RefIn W p bw rv A → Calls Try.prog 47 #[.pointer (some ⟨p, 0, none⟩), .int .i64 (b : Int)] W fun e w' => e = .returned (.slice (some ⟨bw, b, none⟩) n (A.ws.length - b)) ∧ w' = W) := fun W hW => rwords_v hW hfd
  have hrl : (A.region (b : Int)).length = n := by
    unfold Ar.region
    rw [hfd]
    simp only [List.length_take, List.length_drop]
    omega
  have HAT : Hid (∀ W, RefIn W p bw rv A → Calls Try.prog 46 #[.slice (some ⟨bw, b, none⟩) E (A.ws.length - b), .int .i64 (wRefAt x)] W (ReadT (some o) W)) := fun W hW => by
    have hl2 : ((A.region (b : Int)).take E).length = E := by rw [List.length_take, hrl]; omega
    have hr := region_reads hW (E := E) (c := A.ws.length - b) hfd hEn
    have := reAt_any (ws := (A.region (b : Int)).take E) (a := some ⟨bw, b, none⟩) (c := A.ws.length - b) (by rw [hl2]; exact hr) (by rw [hl2]; omega)
      (fun y hy => by
        have h1 := List.mem_of_mem_take hy
        unfold Ar.region at h1
        rw [hfd] at h1
        exact hok.fit y (List.mem_of_mem_drop (List.mem_of_mem_take h1))) (by rw [hl2]; omega) (wRefAt x)
    rw [hl2] at this
    have hrd := read_refers hok ho0 hr0
    rw [show (space * half + top).toNat = E by omega, hm0] at hrd
    rw [hrd] at this
    exact this
  have hpl : (A.placesI (b : Int) half space top).length ≤ 100000 := by
    unfold Ar.placesI
    rw [ho0]
    simp only [List.length_map, starts_length]
    have h1 := len_le_flat obs0
    have h5 := semi_length hok hl
    rw [(objs_ok hok ho0).2.2.1] at h5
    omega
  have hist : isP (A.placesI (b : Int) half space top) x = true := by
    rw [isP_fieldOk ho0 (by omega)]
    unfold fieldOk
    rw [hr0]
    rfl
  have HIS : Hid (∀ (W : World) (a : Option Addr) (c : Nat), readsAt W (.slice a (A.placesI (b : Int) half space top).length c) (A.placesI (b : Int) half space top).length (intsL (A.placesI (b : Int) half space top)) → Calls Try.prog 45 #[.agg #[.slice a (A.placesI (b : Int) half space top).length c, .bool true], .int .u64 x] W fun e w' => e = .returned (.bool true) ∧ Below W.heap.size W w') := fun W a c hW => by
    have := is_anyP x hx a c (A.placesI (b : Int) half space top) true W hW hpl
    rwa [hist] at this
  have HALL : Hid (∀ W, Below w.heap.size w W → Calls Try.prog 17 #[.pointer (some ⟨p, 0, none⟩), heapV (b : Int) half space top] W fun e w' => ∃ a c, e = .returned (placesV a (A.placesI (b : Int) half space top).length c true) ∧ readsAt w' (.slice a (A.placesI (b : Int) half space top).length c) (A.placesI (b : Int) half space top).length (intsL (A.placesI (b : Int) half space top)) ∧ Below W.heap.size W w') := fun W hb => by
    refine (reAll_any (HREF.out W hb) (b : Int) half space top).mono ?_
    rintro e w' ⟨b1, ⟨obs, a, c, ho, he, how⟩ | ⟨ho, _⟩⟩
    · exact ⟨a, c, he, readsAt.of_owns how, b1⟩
    · rw [ho0] at ho; cases ho
  have s1 : E ≤ A.ws.length - b := by omega
  have s2 : 0 ≤ space * half + top := by omega
  have s3 : space * half + top ≤ ((A.ws.length - b : Nat) : Int) := by omega
  have s4 : (space * half + top).toNat = E := by omega
  have s5 : 0 ≤ space * half := by omega
  have s6 : space * half ≤ 2000 := by omega
  have s7 : space * half + top ≤ 4000 := by omega
  have HLL : Hid (∀ L : List Int, L.length = 0 ∨ 0 < (intsL L).length) := fun L => by cases L <;> simp
  have HLP := Lib.hid (HLL.out (A.placesI (b : Int) half space top))
  clear hok ho0 hr0 hm0 hl hn hfd hbd hmx hnn hwi hI hrl hpl hist h hyes hx obs0 m hE
  generalize A.placesI (b : Int) half space top = L at *
  generalize A.ws.length - b = N at *
  generalize wRefAt x = Y at *
  go_enter Try.func15, Try.ntmps15
  go_wp2_with fail
  refine (HALL.out _ (bl_alloc (bl_alloc (Below.refl _ _) _) _)).mono ?_
  rintro e w1 ⟨a, c, rfl, hrd, b1⟩
  have r4 : rowAt w1 w.heap.size 24 [.int .i64 (b : Int), .int .i64 half, .int .i64 space, .int .i64 top] := ((rowAt.made w _ _).alloc _).below b1 (by simp <;> omega)
  have r6 : rowAt w1 (w.heap.size + 1) 45 [.int .i64 0, .int .i64 0, .slice none 0 0, .string ⟨#[]⟩, .bool false] := (rowAt.made_at (w := w.alloc _) _ _ (by simp)).below b1 (by simp <;> omega)
  have HB := Lib.hid (bl_call (bl_alloc (bl_alloc (Below.refl w.heap.size w) _) _) b1)
  have R4 := Lib.hid r4
  have R6 := Lib.hid r6
  have HRD := Lib.hid hrd
  clear r4 r6 b1 hrd
  go_wp2_with fail
  refine (HI.out _).mono ?_
  rintro e w2 ⟨rfl, rfl⟩
  go_wp2_with fail
  refine (HIS.out _ _ _ (HRD.out.below HLP.out (bl_alloc (Below.refl _ _) _))).mono ?_
  rintro e w3 ⟨rfl, b3⟩
  have hb3 : Below w1.heap.size w1 w3 := bl_call (bl_alloc (Below.refl _ _) _) b3
  have HB3 := Lib.hid (bl_call HB.out hb3)
  have R43 := Lib.hid (R4.out.below hb3 R4.out.lt)
  have R63 := Lib.hid (R6.out.below hb3 R6.out.lt)
  have HRW : Hid (RefIn w3.drew p bw rv A) := HREF.out _ (bl_drew HB3.out)
  have m1 : IntKind.i64.wrap (space * half) = space * half := by rw [IntKind.wrap_i64]; omega
  have m2 : IntKind.i64.wrap (space * half + top) = space * half + top := by rw [IntKind.wrap_i64]; omega
  have c0 := R43.out.cell 0
  have c1 := R43.out.cell 1
  have c2 := R43.out.cell 2
  have c3 := R43.out.cell 3
  have lc := R43.out.lt
  simp only [List.getElem?_cons_zero, List.getElem?_cons_succ] at c0 c1 c2 c3
  clear b3 hb3 HB R4 R6 HRD
  go_wp2
  refine wp_region_still_tail 15 (by kernel_rfl) (by kernel_rfl) ?_
  simp only [List.take_succ_cons, List.take_zero, List.drop_succ_cons, List.drop_zero]
  iterate 3 still_step
  still_call (HWD.out _ HRW.out)
  iterate 10 still_step
  still_call (HRA.out _)
  refine wpStill_nil ?_
  change wpList _ _ _ _ _ w3.drew
  clear m1 m2 c0 c1 c2 c3
  go_wp2_with fail
  refine (HAT.out _ HRW.out).mono ?_
  rintro e w5 ⟨b5, ⟨oo, a5, c5, s5', hq, hs, rfl, how⟩ | ⟨hq, _⟩⟩
  · have hb5 : Below w3.heap.size w3 w5 := bl_call (bl_drew (Below.refl _ _)) b5
    have r6 := R63.out.below hb5 R63.out.lt
    have HB5 := Lib.hid (bl_call HB3.out hb5)
    have HQ := Lib.hid hq
    have HS := Lib.hid hs
    have HOW : Hid (w5.ownsRow (w.heap.size + 1 + 1) 29 1 (.slice a5 oo.fs.length c5) oo.fs.length (wordsL oo.fs)) := owns_base how fun g hg => by
      have h1 := (how.lt g hg).1
      have h2 := R63.out.lt
      have h3 : w3.drew.heap.size = w3.heap.size := rfl
      omega
    have z0 := r6.cell 0
    have z1 := r6.cell 1
    have z2 := r6.cell 2
    have z3 := r6.cell 3
    have z4 := r6.cell 4
    have y0 := r6.free 0
    have y1 := r6.free 1
    have y2 := r6.free 2
    have y3 := r6.free 3
    have y4 := r6.free 4
    have lz := r6.lt
    simp only [List.getElem?_cons_zero, List.getElem?_cons_succ] at z0 z1 z2 z3 z4
    clear hq hs how b5 hb5 r6 lc
    go_wp2
    refine bodyPost_ret (v := readV oo.kind oo.tag a5 oo.fs.length c5 s5' true) ?hres ?hdef ⟨?hb, .inl ⟨oo, a5, c5, s5', HQ.out, HS.out, rfl, ?how⟩⟩
    case hdef => rfl
    case hres => simp [results, Try.results15, go_sem, lz, z0, z1, z2, z3, z4]
    case hb => repeat (first | refine bl_set ?_ (by simp) _ | exact HB5.out)
    case how => exact owns_base (owns_set' (owns_four HOW.out _ (by omega) _ _ _ _) _ _ (by show w.heap.size + 1 < w.heap.size + 1 + 1; omega)) fun g hg => by have := (HOW.out.lt g hg).1; omega
  · cases hq
end Go.Proofs.Ytejbblhlbilpnaa
