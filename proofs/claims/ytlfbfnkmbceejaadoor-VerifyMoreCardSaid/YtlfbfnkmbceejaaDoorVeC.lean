/-
  What the walk over a function's instructions comes to: states that are closed under what comes next.
  Conditions: as each states.
-/
import Derived.Test.YtlfbfnkmbceejaaDoorVe
namespace Go.Proofs.YtlfbfnkmbceejaaDoor
open Go.ChangeShapes Go.WideShapes Go.ChangeAt Go.RowKit
set_option linter.unusedVariables false
set_option linter.unusedSimpArgs false
set_option maxRecDepth 100000

theorem stAt_set {l : List PSt} {a b : Nat} {s : PSt} (h : a < l.length) : stAt (l.set a s) b = if a = b then s else stAt l b := by
  unfold stAt
  simp only [List.getD_eq_getElem?_getD, List.getElem?_set]
  by_cases e : a = b
  · subst e; simp [h]
  · simp [e]
theorem stAt_lt {l : List PSt} {a : Nat} (h : stAt l a ≠ stNo) : a < l.length := by
  rcases Nat.lt_or_ge a l.length with e | e
  · exact e
  · exact absurd (by unfold stAt; rw [List.getD_eq_getElem?_getD, List.getElem?_eq_none e]; rfl) h
theorem stAt_mem {l : List PSt} {a : Nat} (h : a < l.length) : stAt l a ∈ l := by
  unfold stAt; rw [List.getD_eq_getElem?_getD, List.getElem?_eq_getElem h]; exact List.getElem_mem h

/-- k' goes on from k. -/
structure Ext (k k' : Wk) : Prop where
  len : k'.st.length = k.st.length
  keep : ∀ b, stAt k.st b ≠ stNo → stAt k'.st b = stAt k.st b
  td : ∀ a ∈ k.td, a ∈ k'.td
  new : ∀ b, stAt k.st b = stNo → stAt k'.st b ≠ stNo → b ∈ k'.td
theorem Ext.refl (k : Wk) : Ext k k := ⟨rfl, fun _ _ => rfl, fun _ h => h, fun _ h h' => absurd h h'⟩
theorem Ext.trans {a b c : Wk} (h : Ext a b) (k : Ext b c) : Ext a c :=
  ⟨k.len.trans h.len, fun x hx => (k.keep x (by rw [h.keep x hx]; exact hx)).trans (h.keep x hx), fun x hx => k.td x (h.td x hx), fun x hx hx' => by
    by_cases e : stAt b.st x = stNo
    · exact k.new x e hx'
    · exact k.td x (h.new x hx e)⟩

theorem comeP_ext {k : Wk} {a : Nat} {s : PSt} (h : (comeP k a s).wr = false) : Ext k (comeP k a s) ∧ k.wr = false ∧ a < k.st.length ∧ sOk s = true ∧ stAt (comeP k a s).st a = s := by
  unfold comeP at h ⊢
  split
  · rename_i hc; rw [if_pos hc] at h; cases h
  · rename_i hc
    rw [if_neg hc] at h
    have hlt : a < k.st.length := by omega
    have hs : sOk s = true := by cases e : sOk s <;> simp_all
    split
    · rename_i he
      rw [if_pos he] at h
      refine ⟨⟨by simp, fun b hb => ?_, fun x hx => List.mem_append_left _ hx, fun b hb hb' => ?_⟩, h, hlt, hs, ?_⟩
      · simp only [stAt_set hlt]
        rw [if_neg]; rintro rfl; exact hb he
      · simp only [stAt_set hlt] at hb'
        split at hb'
        · rename_i e; subst e; simp
        · exact absurd hb hb'
      · simp only [stAt_set hlt, if_true]
    · rename_i he
      rw [if_neg he] at h
      split
      · rename_i e
        rw [if_pos e] at h
        exact ⟨Ext.refl k, h, hlt, hs, e⟩
      · rename_i e
        rw [if_neg e] at h
        cases h
theorem comesP_ext : ∀ (l : List (Nat × PSt)) {k : Wk}, (comesP k l).wr = false → Ext k (comesP k l) ∧ k.wr = false ∧ ∀ q ∈ l, q.1 < k.st.length ∧ sOk q.2 = true ∧ stAt (comesP k l).st q.1 = q.2
  | [], k, h => ⟨Ext.refl k, h, fun q hq => by cases hq⟩
  | q :: l, k, h => by
    obtain ⟨e1, h1, hl⟩ := comesP_ext l (k := comeP k q.1 q.2) h
    obtain ⟨e2, h2, hlt, hs, ha⟩ := comeP_ext h1
    refine ⟨e2.trans e1, h2, fun x hx => ?_⟩
    rcases List.mem_cons.1 hx with rfl | hx
    · exact ⟨hlt, hs, by show stAt (comesP (comeP k x.1 x.2) l).st x.1 = x.2; rw [e1.keep x.1 (by rw [ha]; exact sOk_no hs)]; exact ha⟩
    · obtain ⟨a, b, c⟩ := hl x hx
      exact ⟨by rw [← e2.len]; exact a, b, c⟩

def DoneP (c : List PIns) (l : List PSt) (a : Nat) : Prop := locOk (insAt c a) (stAt l a) = true ∧ ∀ q ∈ succP (insAt c a) a (stAt l a), q.1 < l.length ∧ sOk q.2 = true ∧ stAt l q.1 = q.2
def ClP (c : List PIns) (k : Wk) : Prop := ∀ a, stAt k.st a ≠ stNo → a ∈ k.td ∨ DoneP c k.st a
theorem DoneP.ext {c : List PIns} {k k' : Wk} {a : Nat} (h : DoneP c k.st a) (hs : stAt k.st a ≠ stNo) (e : Ext k k') : DoneP c k'.st a := by
  obtain ⟨h1, h2⟩ := h
  unfold DoneP
  rw [e.keep a hs]
  refine ⟨h1, fun q hq => ?_⟩
  obtain ⟨x, y, z⟩ := h2 q hq
  exact ⟨by rw [e.len]; exact x, y, by rw [e.keep q.1 (by rw [z]; exact sOk_no y)]; exact z⟩
theorem leaveP_cl {c : List PIns} {k : Wk} {a : Nat} (h : ∀ b, stAt k.st b ≠ stNo → b = a ∨ b ∈ k.td ∨ DoneP c k.st b) (hw : (leaveP c k a).wr = false) : ClP c (leaveP c k a) ∧ k.wr = false := by
  unfold leaveP at hw ⊢
  split
  · rename_i hl
    rw [if_pos hl] at hw
    obtain ⟨e, h1, h2⟩ := comesP_ext _ hw
    refine ⟨fun b hb => ?_, h1⟩
    by_cases hk : stAt k.st b = stNo
    · exact .inl (e.new b hk hb)
    · rcases h b hk with rfl | ht | hd
      · right
        unfold DoneP
        rw [e.keep b hk]
        refine ⟨hl, fun q hq => ?_⟩
        obtain ⟨x, y, z⟩ := h2 q hq
        exact ⟨by rw [e.len]; exact x, y, z⟩
      · exact .inl (e.td b ht)
      · exact .inr (hd.ext hk e)
  · rename_i hl
    rw [if_neg hl] at hw
    cases hw
theorem stepP_cl {c : List PIns} {k : Wk} (h : ClP c k) (hn : k.td ≠ []) (hw : (stepP c k).wr = false) : ClP c (stepP c k) ∧ k.wr = false := by
  refine leaveP_cl (k := popT k) (fun b hb => ?_) hw
  rcases h b hb with ht | hd
  · have hl := List.dropLast_concat_getLast hn
    rw [← hl] at ht
    rcases List.mem_append.1 ht with ht | ht
    · exact .inr (.inl ht)
    · left
      have := List.mem_singleton.1 ht
      rw [this]
      unfold lastT
      rw [List.getLastD_eq_getLast?, List.getLast?_eq_some_getLast hn]
      rfl
  · exact .inr (.inr hd)
theorem runP_cl {c : List PIns} : ∀ (n : Nat) {k : Wk}, ClP c k → (runP c n k).wr = false → ClP c (runP c n k)
  | 0, _, h, _ => h
  | n + 1, k, h, hw => by
    by_cases e : k.td = [] ∨ k.wr = true
    · rw [runP_done e]; exact h
    · rw [runP_step n e] at hw ⊢
      by_cases hs : (stepP c k).wr = true
      · rw [runP_done (.inr hs)] at hw; rw [hs] at hw; cases hw
      · exact runP_cl n (stepP_cl h (fun t => e (.inl t)) (by simpa using hs)).1 hw

/-! ## No height is below 0 -/
def NnP (k : Wk) : Prop := ∀ s ∈ k.st, s = stNo ∨ 0 ≤ s.1
theorem comeP_nn {k : Wk} (h : NnP k) (a : Nat) {s : PSt} (hs : 0 ≤ s.1) : NnP (comeP k a s) := by
  unfold comeP
  split
  · exact h
  · split
    · intro x hx
      rcases List.mem_or_eq_of_mem_set hx with hx | rfl
      · exact h x hx
      · exact .inr hs
    · split <;> exact h
theorem comesP_nn : ∀ (l : List (Nat × PSt)) {k : Wk}, NnP k → (∀ q ∈ l, 0 ≤ q.2.1) → NnP (comesP k l)
  | [], _, h, _ => h
  | q :: l, _, h, hq => comesP_nn l (comeP_nn h _ (hq q (List.mem_cons_self ..))) fun x hx => hq x (List.mem_cons_of_mem _ hx)
theorem op_lv0 (l : List RowV) (k : Nat) (h : ∀ r ∈ l, 0 ≤ r.2.2.2.2) : 0 ≤ (l.getD k rowZ).2.2.2.2 := by
  rw [List.getD_eq_getElem?_getD]
  cases e : l[k]? with
  | none => decide
  | some r => exact h r (List.mem_of_getElem? e)
theorem insLv_pos (p : PIns) : 0 ≤ insLv p := by
  unfold insLv effL
  split
  · unfold lvP rowAtP
    split
    · exact op_lv0 _ _ (by decide)
    · exact op_lv0 _ _ (by decide)
  · decide
theorem op_lv1 (l : List RowV) (k : Nat) (h : ∀ r ∈ l, r.2.2.2.2 ≤ 1) : (l.getD k rowZ).2.2.2.2 ≤ 1 := by
  rw [List.getD_eq_getElem?_getD]
  cases e : l[k]? with
  | none => decide
  | some r => exact h r (List.mem_of_getElem? e)
theorem insLv_le (p : PIns) : insLv p ≤ 1 := by
  unfold insLv effL
  split
  · unfold lvP rowAtP
    split
    · exact op_lv1 _ _ (by decide)
    · exact op_lv1 _ _ (by decide)
  · decide
theorem op_tk {l : List RowV} {k : Nat} (h : ∀ r ∈ l, (r.2.2.2.1 = -1 ∧ 0 ≤ spL r.2.2.1 ∧ spH r.2.2.1 ≤ 60) ∨ (0 ≤ r.2.2.2.1 ∧ r.2.2.2.1 ≤ 60)) (b : Int) (hb : opHas (l.getD k rowZ).2.2.1 b = true) :
    0 ≤ (if (l.getD k rowZ).2.2.2.1 = -1 then b else (l.getD k rowZ).2.2.2.1) ∧ (if (l.getD k rowZ).2.2.2.1 = -1 then b else (l.getD k rowZ).2.2.2.1) ≤ 60 := by
  rw [List.getD_eq_getElem?_getD] at hb ⊢
  cases e : l[k]? with
  | none => simp [rowZ]
  | some r =>
    rw [e] at hb
    simp only [Option.getD_some] at hb ⊢
    have hb' := of_decide_eq_true hb
    rcases h r (List.mem_of_getElem? e) with ⟨h1, h2, h3⟩ | ⟨h1, h2⟩
    · rw [if_pos h1]; omega
    · rw [if_neg (by omega)]; exact ⟨h1, h2⟩
theorem insT_bd (p : PIns) : 0 ≤ insT p ∧ insT p ≤ 60 := by
  unfold insT effT
  split
  · rename_i hg
    have hb : opHas (rowAtP p.1 p.2.1).2.2.1 p.2.2 = true := by
      unfold opGood at hg
      exact (Bool.and_eq_true_iff.1 hg).2
    unfold tkP
    unfold rowAtP at hb ⊢
    split
    · rename_i e
      rw [if_pos e] at hb
      exact op_tk (by decide) _ hb
    · rename_i e
      rw [if_neg e] at hb
      exact op_tk (by decide) _ hb
  · decide
theorem succP_nn {p : PIns} {a : Nat} {s : PSt} (h : insT p ≤ s.1) : ∀ q ∈ succP p a s, 0 ≤ q.2.1 := by
  have h0 : 0 ≤ (nextP p s).1 := by unfold nextP; have := insLv_pos p; simp only; omega
  unfold succP
  intro q hq
  split at hq
  · simp only [List.mem_singleton] at hq; subst hq; exact h0
  · split at hq
    · simp only [List.mem_cons, List.not_mem_nil, or_false] at hq; rcases hq with rfl | rfl <;> exact h0
    · split at hq
      · simp only [List.mem_cons, List.not_mem_nil, or_false] at hq
        rcases hq with rfl | rfl
        · show 0 ≤ (nextP p s).1 + 1; omega
        · exact h0
      · split at hq
        · simp only [List.mem_singleton] at hq; subst hq; exact h0
        · split at hq
          · cases hq
          · simp only [List.mem_singleton] at hq; subst hq; exact h0
theorem leaveP_nn {c : List PIns} {k : Wk} (h : NnP k) (a : Nat) : NnP (leaveP c k a) := by
  unfold leaveP
  split
  · rename_i hl
    exact comesP_nn _ h (succP_nn (of_decide_eq_true (Bool.and_eq_true_iff.1 hl).1))
  · exact h
theorem runP_nn {c : List PIns} : ∀ (n : Nat) {k : Wk}, NnP k → NnP (runP c n k)
  | 0, _, h => h
  | n + 1, k, h => by
    unfold runP
    split
    · exact h
    · exact runP_nn n (leaveP_nn (k := popT k) h _)

/-- What a right function's states are. -/
structure FlowP (c : List PIns) (l : List PSt) : Prop where
  len : l.length = c.length
  pos : 0 < c.length
  first : stAt l 0 = (0, 0)
  done : ∀ a, stAt l a ≠ stNo → DoneP c l a
  bd : ∀ s ∈ l, s = stNo ∨ (0 ≤ s.1 ∧ s.1 ≤ 100 ∧ 0 ≤ s.2 ∧ s.2 ≤ 10)
theorem fin_flow {c : List PIns} (h : (finP c).wr = false) : FlowP c (finP c).st := by
  have h0 : (wk0 c).wr = false := by
    cases e : (wk0 c).wr
    · rfl
    · unfold finP at h; rw [runP_done (.inr e)] at h; rw [e] at h; cases h
  obtain ⟨e0, -, hlt, -, ha⟩ := comeP_ext (k := ⟨List.replicate c.length stNo, [], false⟩) (a := 0) (s := (0, 0)) h0
  have hp : 0 < c.length := by simpa using hlt
  have hno : ∀ b, stAt (List.replicate c.length stNo) b = stNo := fun b => by
    unfold stAt; rw [List.getD_eq_getElem?_getD, List.getElem?_replicate]; split <;> rfl
  have c0 : ClP c (wk0 c) := fun b hb => .inl (e0.new b (hno b) hb)
  have hcl := runP_cl (c.length + 1) c0 h
  have hok : WkOk c (finP c) := runP_ok _ (wk0_ok c)
  have hend := runP_end (c := c) (c.length + 1) (k := wk0 c) (by rw [wk0_mu]; omega)
  have htd : (finP c).td = [] := by
    rcases hend with e | e
    · exact e
    · unfold finP at h; rw [e] at h; cases h
  have hn0 : NnP (wk0 c) := comeP_nn (fun s hs => .inl (List.eq_of_mem_replicate hs)) _ (by decide)
  have hnn : NnP (finP c) := runP_nn _ hn0
  have hfirst : stAt (finP c).st 0 = (0, 0) := by
    have key : ∀ (n : Nat) (k : Wk), stAt k.st 0 = (0, 0) → (runP c n k).wr = false → stAt (runP c n k).st 0 = (0, 0) := by
      intro n
      induction n with
      | zero => intro k h _; exact h
      | succ n ih =>
        intro k hk hw
        by_cases e : k.td = [] ∨ k.wr = true
        · rw [runP_done e]; exact hk
        · rw [runP_step n e] at hw ⊢
          by_cases hs : (stepP c k).wr = true
          · rw [runP_done (.inr hs)] at hw; rw [hs] at hw; cases hw
          · refine ih _ ?_ hw
            unfold stepP leaveP at hs ⊢
            split
            · rename_i hl
              rw [if_pos hl] at hs
              obtain ⟨e1, -, -⟩ := comesP_ext _ (by simpa using hs)
              rw [e1.keep 0 (by show stAt k.st 0 ≠ stNo; rw [hk]; decide)]
              exact hk
            · exact hk
    exact key _ _ ha h
  refine ⟨hok.len, hp, hfirst, fun a hs => ?_, fun s hs => ?_⟩
  · rcases hcl a hs with ht | hd
    · have ht' : a ∈ (finP c).td := ht
      rw [htd] at ht'; cases ht'
    · exact hd
  · rcases hok.sts s hs with e | e
    · exact .inl e
    · rcases hnn s hs with e2 | e2
      · exact .inl e2
      · have := of_decide_eq_true e
        exact .inr ⟨e2, this⟩
end Go.Proofs.YtlfbfnkmbceejaaDoor
