/-
  'Cut' of the document's arena.
  Conditions: as each states.
-/
import Derived.Test.YtnjpjhlodamanaaRefCut
import Derived.Deep.DeepCutAuto
import Derived.Deep.CutBlock
namespace Go.Proofs.Ytnjpjhlodamanaa
open Go.ChangeShapes Go.WideShapes Go.ChangeAt Go.RowKit
set_option linter.unusedVariables false
set_option linter.unusedSimpArgs false
set_option maxRecDepth 100000

/-- What the search for room comes to. -/
def Found (A : Ar) (n : Int) (w : World) (a k : Value) (w' : World) : Prop := a = .int .i64 (A.at n : Int) ∧ k = .int .i64 (A.idx n : Int) ∧ ∃ q, w' = w.drewN q

theorem pairs_cells {w : World} {a : Option Addr} {c : Nat} {rs : List (Nat × Nat)} {j : Nat} (hj : j < rs.length) (h : rs.length = 0 ∨ ∃ g, a = some ⟨g, 0, none⟩ ∧ ∀ j (hj : j < rs.length), w.cell? ⟨g, j * 2, none⟩ = some (.int .i64 (rs[j].1 : Int)) ∧ w.cell? ⟨g, j * 2 + 1, none⟩ = some (.int .i64 (rs[j].2 : Int))) :
    ∃ g, a = some ⟨g, 0, none⟩ ∧ w.cell? ⟨g, j * 2, none⟩ = some (.int .i64 (rs[j].1 : Int)) ∧ w.cell? ⟨g, j * 2 + 1, none⟩ = some (.int .i64 (rs[j].2 : Int)) := by
  rcases h with h0 | ⟨g, rfl, hc⟩
  · omega
  · exact ⟨g, rfl, hc j hj⟩

/-- What the statement that lays the row anew leaves. -/
def Relaid (p bw : Nat) (A : Ar) (m : Nat) (w : World) (w' : World) : Prop :=
  ∃ v', w'.ownsRow w.heap.size 94 2 v' (A.rs.length + 1) (pairs (A.rs.take (A.idx m) ++ (A.at m, m) :: A.rs.drop (A.idx m))) ∧ rowAt w' p 90 [.slice (some ⟨bw, 0, none⟩) A.ws.length A.ws.length, v'] ∧ rowAt w' bw 39 (words A.ws) ∧ Upon (fun b => b = p) w w'

abbrev pairObj (A : Ar) (m : Nat) : Obj := .cells #[.int .i64 (A.at m : Int), .int .i64 (m : Int)] 94
theorem relaid_end {w0 w : World} {p bw m cap : Nat} {a a2 : Option Addr} {n2 c2 : Nat} {A : Ar} (hown : w.ownsRow w0.heap.size 94 2 (.slice a2 n2 c2) (A.idx m + 1 + (A.rs.length - A.idx m)) (pairs (A.rs.take (A.idx m)) ++ [.int .i64 (A.at m : Int), .int .i64 (m : Int)] ++ pairs (A.rs.drop (A.idx m)))) (hA : Around w0 p bw (.slice a A.rs.length cap) A w) (hl : A.idx m ≤ A.rs.length) :
    Relaid p bw A m w0 (w.setCell ⟨p, 1, none⟩ (.slice a2 n2 c2)) := by
  obtain ⟨h1, h2, h3, h4⟩ := hA.stored hown
  have e1 : A.idx m + 1 + (A.rs.length - A.idx m) = A.rs.length + 1 := by omega
  have e2 : (pairs (A.rs.take (A.idx m)) ++ [.int .i64 (A.at m : Int), .int .i64 (m : Int)] ++ pairs (A.rs.drop (A.idx m))) = pairs (A.rs.take (A.idx m) ++ (A.at m, m) :: A.rs.drop (A.idx m)) := by simp [pairs]
  rw [e1, e2] at h1
  exact ⟨_, h1, h2, h3, h4⟩

section
variable {W : World} {p bw : Nat} {rv : Value} {A : Ar}
theorem own_src {w : World} {B b : Nat} {t : TypeId} {xs : List Value} {n c : Nat} (h : w.ownsRow B t 2 (.slice (some ⟨b, 0, none⟩) n c) n xs) (m : Nat) : m = 0 ∨ ∃ ad, (some (⟨b, 0, none⟩ : Addr)) = some ad ∧ ∀ j u, xs[j]? = some u → w.cell? (ad.add j) = some u := by
  refine .inr ⟨_, rfl, fun j u hj => ?_⟩
  rcases owns_parts h with ⟨h0, _⟩ | ⟨g, cap, rest, h1, _, hr, _⟩
  · cases h0
  · cases h1
    rw [Addr.add_lit, hr.cell, Nat.zero_add, List.getElem?_append_left (List.getElem?_eq_some_iff.1 hj).1]
    exact hj
theorem owns_row {w : World} {B b : Nat} {t : TypeId} {xs : List Value} {n : Nat} (h : rowAt w b t xs) (hB : B ≤ b) (hl : xs.length = n * 2) (hn : n ≤ 1) : w.ownsRow B t 2 (.slice (some ⟨b, 0, none⟩) n n) n xs :=
  owns_mk (rest := []) (by simpa using h) hB hl (by simpa using hl) (Nat.le_refl _) (by unfold maxLen; omega)
/-- The empty row laid, then the pair; the pair, then the empty row. -/
theorem start_ep (h : RefIn W p bw rv A) (m : Nat) : Around W p bw rv A ((W.alloc (.cells #[] 94)).alloc (pairObj A m)).drew ∧
    ((W.alloc (.cells #[] 94)).alloc (pairObj A m)).drew.ownsRow W.heap.size 94 2 (.slice (some ⟨W.heap.size, 0, none⟩) 0 0) 0 [] ∧
    ((W.alloc (.cells #[] 94)).alloc (pairObj A m)).drew.ownsRow W.heap.size 94 2 (.slice (some ⟨W.heap.size + 1, 0, none⟩) 1 1) 1 [.int .i64 (A.at m : Int), .int .i64 (m : Int)] :=
  ⟨((Around.start h).alloc _).alloc _, owns_row (((rowAt.made_at _ [] rfl).alloc _).drew) (Nat.le_refl _) rfl (by omega), owns_row ((rowAt.made_at _ _ (by simp)).drew) (by omega) rfl (by omega)⟩
theorem start_pe (h : RefIn W p bw rv A) (m : Nat) : Around W p bw rv A ((W.alloc (pairObj A m)).alloc (.cells #[] 94)).drew ∧
    ((W.alloc (pairObj A m)).alloc (.cells #[] 94)).drew.ownsRow W.heap.size 94 2 (.slice (some ⟨W.heap.size + 1, 0, none⟩) 0 0) 0 [] ∧
    ((W.alloc (pairObj A m)).alloc (.cells #[] 94)).drew.ownsRow W.heap.size 94 2 (.slice (some ⟨W.heap.size, 0, none⟩) 1 1) 1 [.int .i64 (A.at m : Int), .int .i64 (m : Int)] :=
  ⟨((Around.start h).alloc _).alloc _, owns_row ((rowAt.made_at _ [] (by simp)).drew) (by omega) rfl (by omega), owns_row (((rowAt.made_at _ _ rfl).alloc _).drew) (Nat.le_refl _) rfl (by omega)⟩
theorem pair_behind {w : World} {v : Value} {n : Nat} {xs : List Value} (hA : Around W p bw rv A w) (ho : w.ownsRow W.heap.size 94 2 v n xs) (m : Nat) : Around W p bw rv A (w.alloc (pairObj A m)) ∧ (w.alloc (pairObj A m)).ownsRow W.heap.size 94 2 v n xs ∧
    (w.alloc (pairObj A m)).ownsRow W.heap.size 94 2 (.slice (some ⟨w.heap.size, 0, none⟩) 1 1) 1 [.int .i64 (A.at m : Int), .int .i64 (m : Int)] :=
  ⟨hA.alloc _, owns_upon ho (Upon.alloc (fun _ => False) _ _) fun _ _ h => h, owns_row (rowAt.made_at _ _ rfl) hA.below.size rfl (by omega)⟩
end

/-- An append beside another row of the call's own. -/
theorem step_append_beside {w w0 : World} {p bw : Nat} {rv : Value} {A : Ar} {i : TypeInfo} (hi : Try.prog.info? 94 = some i) (hz : i.zero = some (.agg #[.int .i64 0, .int .i64 0])) (hsize : i.size = 2) (hby : i.bytes = 16)
    {ops : Array Oper} {o : Oper} {a : Act} {K : Act → World → Prop} {Q : Exit → Act → World → Prop} {E : Prop} (hgd : o.guard = none) (s x : Operand)
    (ho : o.op = .call { callee := .builtin .append, args := #[s, x], argTypes := #[88, 88] })
    (v : Value) (n : Nat) (xs : List Value) (u : Value) (ys : List Value) (hs : a.eval s = v) (hA : Around w0 p bw rv A w ∧ w.ownsRow w0.heap.size 94 2 v n xs ∧ w.ownsRow w0.heap.size 94 2 u 1 ys) (hne : ∀ g, v.ownBlock = some g → u.ownBlock ≠ some g)
    (xa : Option Addr) (m c : Nat) (news : List Value) (hx : a.eval x = .slice xa m c) (hl : news.length = m * 2) (hsrc : m = 0 ∨ ∃ ad, xa = some ad ∧ ∀ j u, news[j]? = some u → w.cell? (ad.add j) = some u) (h1 : ∀ u ∈ news, u.oneCell' = true)
    (h63 : n + m ≤ 40000)
    (h : ∀ v' w', w'.ownsRow w0.heap.size 94 2 v' (n + m) (xs ++ news) → Around w0 p bw rv A w' → w'.cell? ⟨p, 1, none⟩ = some rv → w'.frozen? ⟨p, 1, none⟩ = false → w'.ownsRow w0.heap.size 94 2 u 1 ys → K (a.put o.dst v') w') :
    if Region.wanted o (yielded ops a.tmps) = true then Oper.wp Try.prog o a w K Q else E :=
  step_append_any hgd s x _ ho w0.heap.size 94 i (.agg #[.int .i64 0, .int .i64 0]) 2 16 under_pairs hi hz hsize hby rfl (by decide) v n xs hs hA.2.1 xa m c news hx hl hsrc h1 (by simp only [maxLen]; omega) (by omega) hA.1.below.size
    fun v' w' h2 h3 _ => h v' w' h2 (hA.1.grown hA.2.1 h3) (hA.1.grown hA.2.1 h3).root ((hA.1.grown hA.2.1 h3).ref.root.free 1)
      (owns_upon hA.2.2 (Upon.grown (S := fun b => v.ownBlock = some b) h3 fun k hk => hk) fun g hg e => hne g e hg)

theorem zeros_row {w : World} {bw : Nat} {ws : List Int} {k j : Nat} (h : rowAt w bw 39 (words (ws.take k ++ List.replicate j 0 ++ ws.drop (k + j)))) (hl : k + j < ws.length) :
    rowAt (w.setCell ⟨bw, k + j, none⟩ (.int .u64 0)) bw 39 (words (ws.take k ++ List.replicate (j + 1) 0 ++ ws.drop (k + (j + 1)))) := by
  have e := h.set (k + j) (.int .u64 0)
  have e2 : (words (ws.take k ++ List.replicate j 0 ++ ws.drop (k + j))).set (k + j) (.int .u64 0) = words (ws.take k ++ List.replicate (j + 1) 0 ++ ws.drop (k + (j + 1))) := by
    rw [← List.map_set]
    congr 1
    have h1 : (ws.take k ++ List.replicate j 0).length = k + j := by simp; omega
    rw [List.drop_eq_getElem_cons hl, List.set_append_right _ _ (by omega), h1, Nat.sub_self, List.set_cons_zero, List.replicate_succ', ← Nat.add_assoc]
    simp
  rw [e2] at e
  exact e

theorem cut_end {w W wc wr : World} {p bw m : Nat} {rv v : Value} {A : Ar} (h : RefIn w p bw rv A) (hR : RefIn W p bw rv A) (hU : Upon (fun _ => False) w W) (hm1 : 1 ≤ m) (hroom : (m : Int) ≤ (A.ws.length : Int) - (A.at m : Int))
    (ho : wc.ownsRow W.heap.size 94 2 v (A.rs.length + 1) (pairs (A.rs.take (A.idx m) ++ (A.at m, m) :: A.rs.drop (A.idx m)))) (hroot : rowAt wc p 90 [.slice (some ⟨bw, 0, none⟩) A.ws.length A.ws.length, v])
    (hu : Upon (fun b => b = p) W wc) (hrow : rowAt wr bw 39 (words (A.ws.take (A.at m) ++ List.replicate m 0 ++ A.ws.drop (A.at m + m)))) (hup : Upon (fun b => b = bw) wc wr) :
    RefIn wr p bw v (A.cut m) ∧ Upon (fun b => b = p ∨ b = bw) w wr ∧ ∀ g, v.ownBlock = some g → w.heap.size ≤ g := by
  have hh : A.has m = true := by simp [Ar.has]; omega
  have ec : A.cut m = A.cutted m := by simp [Ar.cut, hh]
  have hl := Ar.length_cutted hh
  have hidx := (h.ok.at_le (n := (m : Int)) (by omega)).2
  have hlo := hR.lt
  have e1 : (A.cutted m).ws = A.ws.take (A.at m) ++ List.replicate m 0 ++ A.ws.drop (A.at m + m) := by simp [Ar.cutted]
  have e2 : (A.cutted m).rs = A.rs.take (A.idx m) ++ (A.at m, m) :: A.rs.drop (A.idx m) := by simp [Ar.cutted]
  have hg : ∀ g, v.ownBlock = some g → W.heap.size ≤ g := fun g hg => (ho.lt g hg).1
  have hpB := hlo p (.inl rfl)
  have hbB := hlo bw (.inr (.inl rfl))
  rw [ec]
  refine ⟨⟨?_, ?_, ?_, h.pw, fun g hv => ?_, (h.ok.cutted hh).1⟩, ?_, fun g hv => Nat.le_trans hU.size (hg g hv)⟩
  · rw [hl]; exact hroot.upon hup h.pw
  · rw [e1]; exact hrow
  · have e3 : (A.cutted m).rs.length = A.rs.length + 1 := by rw [e2]; simp; omega
    rw [e3, e2]
    exact owns_base (owns_upon ho hup fun g hv e => by have := hg g hv; omega) fun _ _ => Nat.zero_le _
  · have := hg g hv
    omega
  · exact ((hU.mono fun _ _ h => h.elim).trans (hu.mono (T := fun b => b = p ∨ b = bw) fun _ _ h => .inl h) fun _ _ h => h).trans (hup.mono (T := fun b => b = p ∨ b = bw) fun _ _ h => .inr h) fun _ _ h => h

set_option maxRecDepth 100000 in
set_option maxHeartbeats 8000000 in
theorem refCut_yes {w : World} {p bw : Nat} {a : Option Addr} {cap : Nat} {A : Ar} {m : Nat} (h : RefIn w p bw (.slice a A.rs.length cap) A) (hm1 : 1 ≤ m) (hroom : (m : Int) ≤ (A.ws.length : Int) - (A.at m : Int)) :
    Calls Try.prog 21 #[.pointer (some ⟨p, 0, none⟩), .int .i64 m] w fun e w' => e = .returned (.int .i64 (A.at m)) ∧ ∃ v', RefIn w' p bw v' (A.cut m) ∧ Upon (fun b => b = p ∨ b = bw) w w' ∧ ∀ g, v'.ownBlock = some g → w.heap.size ≤ g := by
  have hlen : A.rs.length ≤ 20000 := by have := h.ok.chain.len; have := h.ok.max; omega
  have hmax := h.ok.max
  obtain ⟨a', c', ha', hc⟩ := h.cells
  cases ha'
  have HC := Lib.hid hc
  have c1 : w.cell? ⟨p, 1, none⟩ = some (.slice a A.rs.length cap) := (h.root.cell 1).trans rfl
  have c0 : w.cell? ⟨p, 0, none⟩ = some (.slice (some ⟨bw, 0, none⟩) A.ws.length A.ws.length) := (h.root.cell 0).trans rfl
  have HG : Hid (∀ (i : Nat) (h : i < A.rs.length), 0 ≤ A.rs[i].1 ∧ 1 ≤ A.rs[i].2 ∧ A.rs[i].1 + A.rs[i].2 ≤ A.ws.length ∧ findR A.rs (A.rs[i].1 : Int) = some A.rs[i].2) := h.ok.chain.get
  have hn1 : decide ((m : Int) < 1) = false := by simp; omega
  clear hc
  go_enter Try.func21, Try.ntmps21
  go_upto_block 0 with fail
  go_cut [5, 6] (fun s5 s6 wx => Found A m w s5 s6 wx)
  case first =>
    go_wp2
    go_loopw [5, 6] (fun a i wr => ∃ k lo q : Nat, k ≤ A.rs.length ∧ lo ≤ A.ws.length ∧ i = .int .i64 k ∧ a = .int .i64 lo ∧ roomAt m A.rs 0 = ((roomAt m (A.rs.drop k) lo).1, (roomAt m (A.rs.drop k) lo).2 + k) ∧ wr = w.drewN q) (fun _ i _ => A.rs.length - (intOf i).toNat)
    case atStart => exact ⟨0, 0, 0, Nat.zero_le _, Nat.zero_le _, rfl, rfl, by simp, rfl⟩
    case round =>
      obtain ⟨k, lo, q, hk, hlo, rfl, rfl, hrm, rfl⟩ := hrel
      have HR := Lib.hid hrm
      clear hrm
      by_cases hlt : k < A.rs.length
      · obtain ⟨g, rfl, e1, e2⟩ := pairs_cells (w := w) (c := 0) hlt HC.out
        obtain ⟨g1, g2, g3, g4⟩ := HG.out k hlt
        clear g4
        by_cases hc1 : (m : Int) ≤ (A.rs[k].1 : Int) - lo
        · have e := roomAt_here (m : Int) hlt hc1
          have hf : A.at m = lo ∧ A.idx m = k := by unfold Ar.at Ar.idx; rw [HR.out, e]; simp
          have HF := Lib.hid hf
          clear e hf
          go_wp2
          go_meet
          exact ⟨by rw [HF.out.1], by rw [HF.out.2], q, rfl⟩
        · have E := Lib.hid (roomAt_more (m : Int) hlt hc1)
          go_wp2
          go_quiet (fail)
          go_wp2
          go_roundw
          case rel => exact ⟨k + 1, A.rs[k].1 + A.rs[k].2, _, by omega, by omega, by go_num, by go_num, by rw [HR.out, E.out]; simp; omega, rfl⟩
          case measure => simp [intOf]; omega
      · obtain rfl : k = A.rs.length := by omega
        have e : roomAt m (A.rs.drop A.rs.length) lo = (lo, 0) := by simp [roomAt]
        have hf : A.at m = lo ∧ A.idx m = A.rs.length := by unfold Ar.at Ar.idx; rw [HR.out, e]; simp
        have HF := Lib.hid hf
        clear e hf
        go_wp2
        go_meet
        exact ⟨by rw [HF.out.1], by rw [HF.out.2], q, rfl⟩
  case rest =>
    obtain ⟨rfl, rfl, q, rfl⟩ := hcut
    go_upto_region 7 with fail
    obtain ⟨W, hW⟩ : ∃ W, W = w.drewN q := ⟨_, rfl⟩
    have HU : Hid (Upon (fun _ => False) w W) := by rw [hW]; exact Upon.drewN _ _ _
    rw [← hW]
    have hR : RefIn W p bw (.slice a A.rs.length cap) A := h.upon HU.out fun _ _ h => h
    clear c1 c0 hW
    have c1 : W.cell? ⟨p, 1, none⟩ = some (.slice a A.rs.length cap) := (hR.root.cell 1).trans rfl
    have hidx := (h.ok.at_le (n := (m : Int)) (by omega)).2
    have hpl := hR.root.lt
    have hcap : A.rs.length ≤ cap := by
      rcases owns_parts h.regs with ⟨h0, h1, _⟩ | ⟨g', cap', rest, h0, _, _, _, _, hn, _⟩
      · omega
      · cases h0; exact hn
    obtain ⟨i0, hi, hz0, hz1, hz2⟩ := info_parts info_pair
    have sl1 := fun w => run_slice_to 88 94 under_pairs hi a (n := A.rs.length) (c := cap) (k := A.idx m) hidx hcap w
    obtain ⟨xa2, hxa⟩ : ∃ x, x = (if cap = A.idx m then a else a.map (·.add (A.idx m * 2))) := ⟨_, rfl⟩
    have sl2 : ∀ w, (Instr.slice 88 (.slice a A.rs.length cap) (some (.int .i64 (A.idx m : Int))) none none).run Try.prog w = .ok (.slice xa2 (A.rs.length - A.idx m) (cap - A.idx m)) w := fun w => by
      have h := run_slice_from 88 94 under_pairs hi a (n := A.rs.length) (c := cap) (k := A.idx m) hidx w
      rw [hz1, ← hxa] at h
      exact h
    have hsrc2 := fun w' (hw : Around W p bw (.slice a A.rs.length cap) A w') => Around.from_src hw (i := A.idx m) hidx
    simp only [← hxa] at hsrc2
    have HS2 := Lib.hid hsrc2
    have HP : Hid ([Value.int .i64 (A.at m : Int), .int .i64 (m : Int)].length = 1 * 2 ∧ ∀ u ∈ [Value.int .i64 (A.at m : Int), .int .i64 (m : Int)], u.oneCell' = true) := ⟨rfl, by simp; exact ⟨rfl, rfl⟩⟩
    clear hsrc2 hxa
    go_cut [] (fun wx => Relaid p bw A m W wx)
    case first =>
      go_region_law (first
        | (refine step_append_around (w0 := W) hi hz0 hz1 hz2 (by rfl) (.tmp 66) (.tmp 72) (by rfl) (Around.start1 hR _) _ 0 [] (by rfl) (owns_empty W _) _ (A.idx m) cap (pairs (A.rs.take (A.idx m))) (by rfl) (length_pairs_take _ _ hidx) ?c1 (oneCell_pairs _) ?c3 ?_; (case c1 => exact Around.to_src (Around.start1 hR _) hidx); (case c3 => omega); intro v1 w1 hown1 hA1 hc1 hf1; rw [Nat.zero_add, List.nil_append] at hown1; have hs1 := hA1.ref.root.lt)
        | (refine step_append_beside (w0 := W) hi hz0 hz1 hz2 (by rfl) (.tmp 66) (.tmp 72) (by rfl) _ 0 [] _ _ (by rfl) (start_ep hR m) ?a0 _ (A.idx m) cap (pairs (A.rs.take (A.idx m))) (by rfl) (length_pairs_take _ _ hidx) ?a1 (oneCell_pairs _) ?a3 ?_; (case a0 => simp [Value.ownBlock]); (case a1 => exact Around.to_src (start_ep hR m).1 hidx); (case a3 => omega); intro v1 w1 hown1 hA1 hc1 hf1 hp1; rw [Nat.zero_add, List.nil_append] at hown1; have hs1 := hA1.ref.root.lt)
        | (refine step_append_beside (w0 := W) hi hz0 hz1 hz2 (by rfl) (.tmp 66) (.tmp 72) (by rfl) _ 0 [] _ _ (by rfl) (start_pe hR m) ?b0 _ (A.idx m) cap (pairs (A.rs.take (A.idx m))) (by rfl) (length_pairs_take _ _ hidx) ?b1 (oneCell_pairs _) ?b3 ?_; (case b0 => simp [Value.ownBlock]); (case b1 => exact Around.to_src (start_pe hR m).1 hidx); (case b3 => omega); intro v1 w1 hown1 hA1 hc1 hf1 hp1; rw [Nat.zero_add, List.nil_append] at hown1; have hs1 := hA1.ref.root.lt)
        | (refine step_append_around (w0 := W) hi hz0 hz1 hz2 (by rfl) (.tmp 73) (.tmp 77) (by rfl) (by assumption) _ (A.idx m) (pairs (A.rs.take (A.idx m))) (by rfl) (by assumption) _ 1 1 [.int .i64 (A.at m : Int), .int .i64 (m : Int)] (by rfl) HP.out.1 ?d1 HP.out.2 ?d3 ?_; (case d1 => exact own_src (by assumption) 1); (case d3 => omega); intro v2 w2 hown2 hA2 hc2 hf2; have hs2 := hA2.ref.root.lt)
        | (refine step_append_around (w0 := W) hi hz0 hz1 hz2 (by rfl) (.tmp 73) (.tmp 77) (by rfl) (pair_behind (by assumption) (by assumption) m).1 _ (A.idx m) (pairs (A.rs.take (A.idx m))) (by rfl) (pair_behind (by assumption) (by assumption) m).2.1 _ 1 1 [.int .i64 (A.at m : Int), .int .i64 (m : Int)] (by rfl) HP.out.1 ?e1 HP.out.2 ?e3 ?_; (case e1 => exact own_src (pair_behind (by assumption) (by assumption) m).2.2 1); (case e3 => omega); intro v2 w2 hown2 hA2 hc2 hf2; have hs2 := hA2.ref.root.lt)
        | (refine step_append_around (w0 := W) hi hz0 hz1 hz2 (by rfl) (.tmp 78) (.tmp 84) (by rfl) (by assumption) _ (A.idx m + 1) (pairs (A.rs.take (A.idx m)) ++ [.int .i64 (A.at m : Int), .int .i64 (m : Int)]) (by rfl) (by assumption) _ (A.rs.length - A.idx m) (cap - A.idx m) (pairs (A.rs.drop (A.idx m))) (by rfl) (length_pairs_drop _ _) ?f1 (oneCell_pairs _) ?f3 ?_; (case f1 => exact HS2.out _ (by assumption)); (case f3 => omega); intro v3 w3 hown3 hA3 hc3 hf3; obtain ⟨a3, n3, rfl⟩ := owns_slice hown3))
      all_goals
        go_wp2_with fail
        go_meet
        exact relaid_end hown3 hA3 hidx
    case rest =>
      obtain ⟨v', ho, hroot, hws, hu⟩ := hcut
      obtain ⟨va, vc, rfl⟩ := owns_slice ho
      have c0 : wc.cell? ⟨p, 0, none⟩ = some (.slice (some ⟨bw, 0, none⟩) A.ws.length A.ws.length) := (hroot.cell 0).trans rfl
      have HO := Lib.hid ho
      have HROOT := Lib.hid hroot
      have HWS := Lib.hid hws
      have HUU := Lib.hid hu
      have hat : A.at m + m ≤ A.ws.length := by omega
      clear ho hroot hws hu sl1 sl2 hi hz0 hz1 hz2 hcap
      go_wp2
      go_loopw [7] (fun i wr => ∃ j : Nat, j ≤ m ∧ i = .int .i64 j ∧ rowAt wr bw 39 (words (A.ws.take (A.at m) ++ List.replicate j 0 ++ A.ws.drop (A.at m + j))) ∧ Upon (fun b => b = bw) wc wr) (fun i _ => m - (intOf i).toNat)
      case atStart => exact ⟨0, Nat.zero_le _, rfl, by simpa using HWS.out, Upon.refl _ _⟩
      case round =>
        obtain ⟨j, hj, rfl, hrow, hup⟩ := hrel
        have hrt := HROOT.out.upon hup h.pw
        have cr0 : wr.cell? ⟨p, 0, none⟩ = some (.slice (some ⟨bw, 0, none⟩) A.ws.length A.ws.length) := (hrt.cell 0).trans rfl
        have HR := Lib.hid hrow
        have HUP := Lib.hid hup
        clear hrow hup hrt c0
        by_cases hlt : j < m
        · have hlw : (words (A.ws.take (A.at m) ++ List.replicate j 0 ++ A.ws.drop (A.at m + j))).length = A.ws.length := by simp; omega
          obtain ⟨x, cb⟩ : ∃ x, wr.cell? ⟨bw, A.at m + j, none⟩ = some x := ⟨_, by rw [HR.out.cell, List.getElem?_eq_getElem (by omega)]⟩
          have fb := HR.out.free (A.at m + j)
          clear hlw
          go_wp2
          go_roundw
          case rel => exact ⟨j + 1, by omega, by go_num, zeros_row HR.out (by omega), HUP.out.trans (Upon.setCell (S := fun b => b = bw) _ _ rfl) fun _ _ h => h⟩
          case measure => simp [intOf]; omega
        · obtain rfl : j = m := by omega
          go_wp2
          go_ret
          exact ⟨rfl, _, cut_end h hR HU.out hm1 hroom HO.out HROOT.out HUU.out HR.out HUP.out⟩
end Go.Proofs.Ytnjpjhlodamanaa
