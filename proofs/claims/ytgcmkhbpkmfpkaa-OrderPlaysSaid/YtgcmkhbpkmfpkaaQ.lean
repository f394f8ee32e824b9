/-
  A queue as plain data: entries (key, rank), which of two comes ahead, heaps in a row ('HeapF'), what 'up' and 'down' keep, places by keys, the sorted row.
  Conditions: none.
-/
namespace Go.Proofs.Ytgcmkhbpkmfpkaa

abbrev En := Int × Int
/-- e comes ahead of f. -/
def ltE (e f : En) : Prop := e.2 < f.2 ∨ (e.2 = f.2 ∧ e.1 < f.1)
def leE (e f : En) : Prop := e.2 < f.2 ∨ (e.2 = f.2 ∧ e.1 ≤ f.1)
instance (e f : En) : Decidable (ltE e f) := by unfold ltE; exact inferInstance
instance (e f : En) : Decidable (leE e f) := by unfold leE; exact inferInstance
theorem leE_of_not {e f : En} (h : ¬ ltE e f) : leE f e := by unfold ltE at h; unfold leE; omega
theorem leE_of_lt {e f : En} (h : ltE e f) : leE e f := by unfold ltE at h; unfold leE; omega
theorem leE_trans {e f g : En} (h : leE e f) (k : leE f g) : leE e g := by unfold leE at *; omega
theorem leE_refl (e : En) : leE e e := by unfold leE; omega
theorem ltE_trans {e f g : En} (h : ltE e f) (k : ltE f g) : ltE e g := by unfold ltE at *; omega
theorem ltE_of_le_key {e f : En} (h : leE e f) (k : e.1 ≠ f.1) : ltE e f := by unfold leE at h; unfold ltE; omega
theorem not_ltE {e f : En} (h : leE e f) : ¬ ltE f e := by unfold leE at h; unfold ltE; omega

/-! ## Rows as functions of the place -/

def swpF (a : Nat → En) (i j : Nat) : Nat → En := fun k => if k = j then a i else if k = i then a j else a k
def HeapF (a : Nat → En) (n : Nat) : Prop := ∀ c, 0 < c → c < n → leE (a ((c - 1) / 2)) (a c)
def UpInv (a : Nat → En) (n j : Nat) : Prop :=
  (∀ c, 0 < c → c < n → c ≠ j → leE (a ((c - 1) / 2)) (a c)) ∧ (∀ c, 0 < c → c < n → (c - 1) / 2 = j → 0 < j → leE (a ((j - 1) / 2)) (a c))

theorem up_step {a : Nat → En} {n j : Nat} (hj : 0 < j) (hjn : j < n) (h : UpInv a n j) (hlt : ltE (a j) (a ((j - 1) / 2))) : UpInv (swpF a ((j - 1) / 2) j) n ((j - 1) / 2) := by
  obtain ⟨h1, h2⟩ := h
  obtain ⟨i, hi⟩ : ∃ i, i = (j - 1) / 2 := ⟨_, rfl⟩
  rw [← hi] at hlt ⊢
  have hij : i < j := by omega
  have hle := leE_of_lt hlt
  refine ⟨fun c hc hcn hci => ?_, fun c hc hcn hp hi0 => ?_⟩
  · by_cases hcj : c = j
    · subst hcj
      rw [← hi]
      unfold swpF
      rw [if_neg (by omega), if_pos rfl, if_pos rfl]
      exact hle
    · have hcc := h1 c hc hcn hcj
      unfold swpF
      rw [if_neg hcj, if_neg hci]
      by_cases hp : (c - 1) / 2 = j
      · rw [if_pos hp]
        have := h2 c hc hcn hp hj
        rwa [← hi] at this
      · rw [if_neg hp]
        by_cases hp2 : (c - 1) / 2 = i
        · rw [if_pos hp2]
          rw [hp2] at hcc
          exact leE_trans hle hcc
        · rw [if_neg hp2]; exact hcc
  · have h3 := h1 i hi0 (by omega) (by omega)
    unfold swpF
    rw [if_neg (show (i - 1) / 2 ≠ j by omega), if_neg (show (i - 1) / 2 ≠ i by omega)]
    by_cases hcj : c = j
    · rw [if_pos hcj]; exact h3
    · rw [if_neg hcj, if_neg (show c ≠ i by omega)]
      have := h1 c hc hcn hcj
      rw [hp] at this
      exact leE_trans h3 this

theorem up_end {a : Nat → En} {n j : Nat} (h : UpInv a n j) (he : j = 0 ∨ ¬ ltE (a j) (a ((j - 1) / 2))) : HeapF a n := by
  intro c hc hcn
  by_cases hcj : c = j
  · subst hcj
    rcases he with he | he
    · omega
    · exact leE_of_not he
  · exact h.1 c hc hcn hcj

/-- On the way down: i is where the entry is; s where it began. -/
def DnInv (a : Nat → En) (n s i : Nat) : Prop :=
  s ≤ i ∧ (∀ c, 0 < c → c < n → c ≠ i → (c - 1) / 2 ≠ i → leE (a ((c - 1) / 2)) (a c)) ∧
  (∀ c, 0 < c → c < n → (c - 1) / 2 = i → 0 < i → leE (a ((i - 1) / 2)) (a c)) ∧ (s < i → leE (a ((i - 1) / 2)) (a i))

/-- j is a child of i, and none of its children comes ahead of it. -/
def Child (a : Nat → En) (n i j : Nat) : Prop := 0 < j ∧ j < n ∧ (j - 1) / 2 = i ∧ ∀ c, 0 < c → c < n → (c - 1) / 2 = i → leE (a j) (a c)

theorem dn_step {a : Nat → En} {n s i j : Nat} (h : DnInv a n s i) (hc : Child a n i j) (hlt : ltE (a j) (a i)) : DnInv (swpF a i j) n s j := by
  obtain ⟨h0, h1, h2, h3⟩ := h
  obtain ⟨hj0, hjn, hp, hmin⟩ := hc
  have hij : i < j := by omega
  have hle := leE_of_lt hlt
  refine ⟨by omega, fun c hc hcn hcj hpj => ?_, fun c hc hcn hpj _ => ?_, fun _ => ?_⟩
  · unfold swpF
    rw [if_neg hpj, if_neg hcj]
    by_cases hci : c = i
    · rw [if_pos hci, if_neg (show (c - 1) / 2 ≠ i by omega)]
      subst hci
      exact h2 j hj0 hjn hp hc
    · rw [if_neg hci]
      by_cases hpi : (c - 1) / 2 = i
      · rw [if_pos hpi]; exact hmin c hc hcn hpi
      · rw [if_neg hpi]; exact h1 c hc hcn hci hpi
  · unfold swpF
    rw [hp, if_neg (show i ≠ j by omega), if_pos rfl, if_neg (show c ≠ j by omega), if_neg (show c ≠ i by omega)]
    have := h1 c hc hcn (by omega) (by omega)
    rwa [hpj] at this
  · unfold swpF
    rw [hp, if_neg (show i ≠ j by omega), if_pos rfl, if_pos rfl]
    exact hle

/-- The end: no child, or the first child does not come ahead. -/
theorem dn_end {a : Nat → En} {n s i : Nat} (h : DnInv a n s i) (he : n ≤ 2 * i + 1 ∨ ∃ j, Child a n i j ∧ ¬ ltE (a j) (a i)) : (s < i → HeapF a n) ∧ (s = i → UpInv a n i) := by
  obtain ⟨h0, h1, h2, h3⟩ := h
  have hk : ∀ c, 0 < c → c < n → (c - 1) / 2 = i → leE (a i) (a c) := by
    intro c hc hcn hp
    rcases he with he | ⟨j, hj, hn⟩
    · omega
    · exact leE_trans (leE_of_not hn) (hj.2.2.2 c hc hcn hp)
  have hall : ∀ c, 0 < c → c < n → c ≠ i → leE (a ((c - 1) / 2)) (a c) := by
    intro c hc hcn hci
    by_cases hp : (c - 1) / 2 = i
    · rw [hp]; exact hk c hc hcn hp
    · exact h1 c hc hcn hci hp
  refine ⟨fun hs c hc hcn => ?_, fun _ => ⟨hall, h2⟩⟩
  by_cases hci : c = i
  · subst hci; exact h3 hs
  · exact hall c hc hcn hci

/-- The last entry laid at i. -/
theorem dn_start {a : Nat → En} {n i : Nat} (h : HeapF a (n + 1)) (hi : i < n) : DnInv (swpF a i n) n i i := by
  refine ⟨Nat.le_refl _, fun c hc hcn hci hp => ?_, fun c hc hcn hp hi0 => ?_, fun h => by omega⟩
  · unfold swpF
    rw [if_neg (show (c - 1) / 2 ≠ n by omega), if_neg hp, if_neg (show c ≠ n by omega), if_neg hci]
    exact h c hc (by omega)
  · unfold swpF
    rw [if_neg (show (i - 1) / 2 ≠ n by omega), if_neg (show (i - 1) / 2 ≠ i by omega), if_neg (show c ≠ n by omega), if_neg (show c ≠ i by omega)]
    have h1 := h i hi0 (by omega)
    have h2 := h c hc (by omega)
    rw [hp] at h2
    exact leE_trans h1 h2

theorem HeapF.mono {a : Nat → En} {n m : Nat} (h : HeapF a n) (hm : m ≤ n) : HeapF a m := fun c hc hcm => h c hc (by omega)
theorem HeapF.root {a : Nat → En} {n : Nat} (h : HeapF a n) : ∀ k, k < n → leE (a 0) (a k) := by
  intro k
  induction k using Nat.strongRecOn with
  | _ k ih =>
    intro hk
    by_cases h0 : k = 0
    · subst h0; exact leE_refl _
    · exact leE_trans (ih ((k - 1) / 2) (by omega) (by omega)) (h k (by omega) hk)
theorem UpInv.push {a : Nat → En} {n : Nat} (h : HeapF a n) : UpInv a (n + 1) n := by
  refine ⟨fun c hc hcn hne => h c hc (by omega), fun c hc hcn hp _ => by omega⟩
theorem HeapF.congr {a b : Nat → En} {n : Nat} (h : HeapF a n) (e : ∀ k, k < n → a k = b k) : HeapF b n := fun c hc hcn => by
  rw [← e c hcn, ← e _ (by omega)]; exact h c hc hcn
theorem UpInv.congr {a b : Nat → En} {n j : Nat} (hj : j < n) (h : UpInv a n j) (e : ∀ k, k < n → a k = b k) : UpInv b n j :=
  ⟨fun c hc hcn hne => by rw [← e c hcn, ← e _ (by omega)]; exact h.1 c hc hcn hne, fun c hc hcn hp h0 => by rw [← e c hcn, ← e _ (by omega)]; exact h.2 c hc hcn hp h0⟩

/-! ## Rows as lists -/

def atE (l : List En) : Nat → En := fun k => l.getD k (0, 0)
def swp (l : List En) (i j : Nat) : List En := (l.set i (atE l j)).set j (atE l i)
theorem atE_get {l : List En} {k : Nat} (h : k < l.length) : atE l k = l[k] := by simp [atE, h]
theorem length_swp (l : List En) (i j : Nat) : (swp l i j).length = l.length := by simp [swp]
theorem atE_swp {l : List En} {i j : Nat} (hi : i < l.length) (hj : j < l.length) : atE (swp l i j) = swpF (atE l) i j := by
  funext k
  unfold swpF swp
  simp only [atE, List.getD_eq_getElem?_getD, List.getElem?_set, List.length_set]
  by_cases h1 : k = j
  · subst h1; simp [hj]
  · rw [if_neg (Ne.symm h1), if_neg h1]
    by_cases h2 : k = i
    · subst h2; simp [hi]
    · rw [if_neg (Ne.symm h2), if_neg h2]
theorem swp_perm {l : List En} {i j : Nat} (hi : i < l.length) (hj : j < l.length) : (swp l i j).Perm l := by
  unfold swp
  rw [atE_get hi, atE_get hj]
  exact List.set_set_perm hi hj

/-- f tells where each key stands. -/
def Places (f : Int → Option Nat) (l : List En) : Prop := ∀ k i, f k = some i ↔ i < l.length ∧ (atE l i).1 = k
theorem Places.nil : Places (fun _ => none) [] := fun k i => by simp
theorem Places.once {f : Int → Option Nat} {l : List En} (h : Places f l) {i j : Nat} (hi : i < l.length) (hj : j < l.length) (e : (atE l i).1 = (atE l j).1) : i = j := by
  have h1 := (h _ i).2 ⟨hi, rfl⟩
  have h2 := (h _ j).2 ⟨hj, rfl⟩
  rw [e, h2] at h1
  exact (Option.some.inj h1).symm
theorem Places.none {f : Int → Option Nat} {l : List En} (h : Places f l) {k : Int} (hk : f k = none) : ∀ e ∈ l, e.1 ≠ k := by
  intro e he ek
  obtain ⟨i, hi, rfl⟩ := List.getElem_of_mem he
  have := (h k i).2 ⟨hi, by rw [atE_get hi]; exact ek⟩
  rw [hk] at this
  cases this
theorem Places.nodup {f : Int → Option Nat} {l : List En} (h : Places f l) : (l.map (·.1)).Nodup := by
  rw [List.nodup_iff_pairwise_ne, List.pairwise_iff_getElem]
  intro i j hi hj hij
  simp only [List.length_map] at hi hj
  simp only [List.getElem_map]
  intro e
  have := h.once hi hj (by rw [atE_get hi, atE_get hj]; exact e)
  omega
theorem Places.push {f : Int → Option Nat} {l : List En} (h : Places f l) (e : En) (hk : f e.1 = .none) : Places (fun k => if k = e.1 then some l.length else f k) (l ++ [e]) := by
  intro k i
  have ha : ∀ i, i < l.length → atE (l ++ [e]) i = atE l i := fun i hi => by simp [atE, List.getElem?_append_left hi]
  have hb : atE (l ++ [e]) l.length = e := by simp [atE]
  simp only [List.length_append, List.length_singleton]
  by_cases hke : k = e.1
  · subst hke
    simp only [if_true]
    constructor
    · intro hi; cases hi; exact ⟨by omega, by rw [hb]⟩
    · rintro ⟨hi, hc⟩
      by_cases hil : i = l.length
      · rw [hil]
      · have hi' : i < l.length := by omega
        rw [ha i hi'] at hc
        have := (h e.1 i).2 ⟨hi', hc⟩
        rw [hk] at this; cases this
  · rw [if_neg hke, h k i]
    constructor
    · rintro ⟨hi, hc⟩; exact ⟨by omega, by rw [ha i hi]; exact hc⟩
    · rintro ⟨hi, hc⟩
      by_cases hil : i = l.length
      · subst hil; rw [hb] at hc; exact absurd hc.symm hke
      · have hi' : i < l.length := by omega
        rw [ha i hi'] at hc; exact ⟨hi', hc⟩
theorem Places.pop {f : Int → Option Nat} {l : List En} (h : Places f l) {n : Nat} (hn : l.length = n + 1) : Places (fun k => if k = (atE l n).1 then .none else f k) (l.take n) := by
  intro k i
  have ha : ∀ i, i < n → atE (l.take n) i = atE l i := fun i hi => by simp [atE, hi]
  simp only [List.length_take]
  by_cases hk : k = (atE l n).1
  · rw [if_pos hk]
    constructor
    · intro h; cases h
    · rintro ⟨hi, hc⟩
      rw [ha i (by omega)] at hc
      have := h.once (i := i) (j := n) (by omega) (by omega) (by rw [hc, hk])
      omega
  · rw [if_neg hk, h k i]
    constructor
    · rintro ⟨hi, hc⟩
      have : i ≠ n := by rintro rfl; exact hk hc.symm
      exact ⟨by omega, by rw [ha i (by omega)]; exact hc⟩
    · rintro ⟨hi, hc⟩
      rw [ha i (by omega)] at hc
      exact ⟨by omega, hc⟩
/-- Behind an exchange: places are told anew for the two. -/
theorem Places.swap {f : Int → Option Nat} {l : List En} (h : Places f l) {i j : Nat} (hi : i < l.length) (hj : j < l.length) :
    Places (fun k => if k = (atE (swp l i j) j).1 then some j else if k = (atE (swp l i j) i).1 then some i else f k) (swp l i j) := by
  rw [atE_swp hi hj]
  intro k m
  rw [length_swp, atE_swp hi hj]
  have e1 : swpF (atE l) i j j = atE l i := by simp [swpF]
  have e2 : swpF (atE l) i j i = atE l j := by
    unfold swpF
    by_cases hij : i = j
    · subst hij; simp
    · rw [if_neg hij, if_pos rfl]
  rw [e1, e2]
  dsimp only
  by_cases hk1 : k = (atE l i).1
  · rw [if_pos hk1]
    constructor
    · intro e; cases e; exact ⟨hj, by rw [e1, hk1]⟩
    · rintro ⟨hm, hc⟩
      unfold swpF at hc
      by_cases hmj : m = j
      · rw [hmj]
      · rw [if_neg hmj] at hc
        by_cases hmi : m = i
        · rw [if_pos hmi] at hc
          have := h.once hj hi (by rw [hc, hk1])
          exact absurd (hmi.trans this.symm) hmj
        · rw [if_neg hmi] at hc
          exact absurd (h.once hm hi (by rw [hc, hk1])) hmi
  · rw [if_neg hk1]
    by_cases hk2 : k = (atE l j).1
    · rw [if_pos hk2]
      constructor
      · intro e; cases e; exact ⟨hi, by rw [e2, hk2]⟩
      · rintro ⟨hm, hc⟩
        unfold swpF at hc
        by_cases hmj : m = j
        · rw [if_pos hmj] at hc
          exact absurd hc.symm hk1
        · rw [if_neg hmj] at hc
          by_cases hmi : m = i
          · rw [hmi]
          · rw [if_neg hmi] at hc
            exact absurd (h.once hm hj (by rw [hc, hk2])) hmj
    · rw [if_neg hk2, h k m]
      constructor
      · rintro ⟨hm, hc⟩
        have n1 : m ≠ i := by rintro rfl; exact hk1 hc.symm
        have n2 : m ≠ j := by rintro rfl; exact hk2 hc.symm
        exact ⟨hm, by unfold swpF; rw [if_neg n2, if_neg n1]; exact hc⟩
      · rintro ⟨hm, hc⟩
        unfold swpF at hc
        by_cases hmj : m = j
        · rw [if_pos hmj] at hc; exact absurd hc.symm hk1
        · rw [if_neg hmj] at hc
          by_cases hmi : m = i
          · rw [if_pos hmi] at hc; exact absurd hc.symm hk2
          · rw [if_neg hmi] at hc; exact ⟨hm, hc⟩

/-! ## The sorted row -/

def Rises (s : List En) : Prop := s.Pairwise ltE
def insE (e : En) : List En → List En
  | [] => [e]
  | f :: t => if ltE f e then f :: insE e t else e :: f :: t
theorem insE_perm (e : En) : ∀ s : List En, (insE e s).Perm (e :: s)
  | [] => List.Perm.refl _
  | f :: t => by
    unfold insE
    split
    · exact ((insE_perm e t).cons f).trans (List.Perm.swap e f t)
    · exact List.Perm.refl _
theorem insE_rises {e : En} : ∀ {s : List En}, Rises s → (∀ f ∈ s, f.1 ≠ e.1) → Rises (insE e s)
  | [], _, _ => List.pairwise_singleton _ _
  | f :: t, h, hk => by
    obtain ⟨h1, h2⟩ := List.pairwise_cons.1 h
    unfold insE
    split
    · rename_i hlt
      refine List.pairwise_cons.2 ⟨fun g hg => ?_, insE_rises h2 fun g hg => hk g (by simp [hg])⟩
      rcases List.mem_cons.1 ((insE_perm e t).mem_iff.1 hg) with rfl | hg
      · exact hlt
      · exact h1 g hg
    · rename_i hlt
      have hef : ltE e f := ltE_of_le_key (leE_of_not hlt) (Ne.symm (hk f (by simp)))
      refine List.pairwise_cons.2 ⟨fun g hg => ?_, h⟩
      rcases List.mem_cons.1 hg with rfl | hg
      · exact hef
      · exact ltE_trans hef (h1 g hg)
theorem rises_eq : ∀ {s t : List En}, Rises s → Rises t → s.Perm t → s = t
  | [], t, _, _, h => h.nil_eq
  | e :: s, [], _, _, h => by have := h.length_eq; simp at this
  | e :: s, f :: t, hs, ht, h => by
    obtain ⟨h1, h2⟩ := List.pairwise_cons.1 hs
    obtain ⟨h3, h4⟩ := List.pairwise_cons.1 ht
    have hef : e = f := by
      have he : e ∈ f :: t := h.mem_iff.1 (by simp)
      have hf : f ∈ e :: s := h.mem_iff.2 (by simp)
      rcases List.mem_cons.1 he with rfl | he
      · rfl
      · rcases List.mem_cons.1 hf with rfl | hf
        · rfl
        · have a := h1 f hf
          have b := h3 e he
          unfold ltE at a b
          omega
    subst hef
    rw [rises_eq h2 h4 (List.Perm.cons_inv h)]

end Go.Proofs.Ytgcmkhbpkmfpkaa
