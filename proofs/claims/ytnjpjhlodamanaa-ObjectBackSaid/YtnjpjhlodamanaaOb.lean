/-
  Objects as plain data: which may be, their words, what stands in a row of words, which words of a heap point to objects.
  Conditions: as each states.
-/
import Derived.Test.YtnjpjhlodamanaaArenaM
import Derived.Test.YtnjpjhlodamanaaWord
namespace Go.Proofs.Ytnjpjhlodamanaa
open Go.ChangeShapes Go.WideShapes Go.ChangeAt Go.RowKit
set_option linter.unusedVariables false
set_option linter.unusedSimpArgs false

structure Ob where
  kind : Int
  tag : Int
  fs : List Int
  tx : List UInt8

theorem Ob.ext' {o p : Ob} (h1 : o.kind = p.kind) (h2 : o.tag = p.tag) (h3 : o.fs = p.fs) (h4 : o.tx = p.tx) : o = p := by
  cases o; cases p; simp_all

def hasH (k : Int) (nf nt : Nat) : Bool := if k = 2 then decide (nf = 0) else decide (nt = 0)
def sizeH (k : Int) (nf nt : Nat) : Nat := if k = 2 then nt else nf
def mayH (k t s : Int) : Bool := decide ((k = 1 ∧ 0 ≤ t ∧ t ≤ 255 ∧ 1 ≤ s ∧ s ≤ 8) ∨ (k = 2 ∧ t = 0 ∧ s ≤ 400) ∨ (k = 3 ∧ t = 0 ∧ s ≤ 400) ∨ (k = 4 ∧ 0 ≤ t ∧ t < 60 ∧ s ≤ 30))
def longH (k : Int) (s : Nat) : Nat := if k = 2 then (s + 7) / 8 else s

def Ob.size (o : Ob) : Nat := sizeH o.kind o.fs.length o.tx.length
def Ob.may (o : Ob) : Bool := hasH o.kind o.fs.length o.tx.length && mayH o.kind o.tag o.size
def Ob.long (o : Ob) : Nat := longH o.kind o.size
def Ob.words (o : Ob) : Nat := 1 + o.long
def headW (k t : Int) (s : Nat) : Int := k + 256 * t + 4294967296 * s
def Ob.head (o : Ob) : Int := headW o.kind o.tag o.size

/-! ## Texts in words -/

def ofBytes : List UInt8 → Int
  | [] => 0
  | b :: r => b.toNat + 256 * ofBytes r
def packW (tx : List UInt8) (j : Nat) : Int := ofBytes ((tx.drop (8 * j)).take 8)
def pack (tx : List UInt8) : List Int := (List.range ((tx.length + 7) / 8)).map (packW tx)
def byteAt (body : List Int) (i : Nat) : UInt8 := UInt8.ofNat ((body.getD (i / 8) 0 / 256 ^ (i % 8)) % 256).toNat
def unpack (body : List Int) (n : Nat) : List UInt8 := (List.range n).map (byteAt body)
def soundH (k : Int) (body : List Int) (s : Nat) : Bool := decide (k ≠ 2) || decide (s % 8 = 0) || decide (body.getD (s / 8) 0 / 256 ^ (s % 8) = 0)

def Ob.body (o : Ob) : List Int := if o.kind = 2 then pack o.tx else o.fs
def Ob.lay (o : Ob) : List Int := o.head :: o.body
def fitW (x : Int) : Prop := 0 ≤ x ∧ x < 18446744073709551616
def Ob.fit (o : Ob) : Prop := ∀ x ∈ o.fs, fitW x

theorem ofBytes_nonneg : ∀ l, 0 ≤ ofBytes l
  | [] => by simp [ofBytes]
  | b :: r => by have := ofBytes_nonneg r; unfold ofBytes; omega
theorem ofBytes_lt : ∀ l, ofBytes l < 256 ^ l.length
  | [] => by simp [ofBytes]
  | b :: r => by
    have := ofBytes_lt r
    have hb : b.toNat < 256 := b.toNat_lt
    simp only [ofBytes, List.length_cons, Int.pow_succ]
    omega
theorem pow256_pos (n : Nat) : (0 : Int) < 256 ^ n := Int.pow_pos (by decide)
theorem ofBytes_append : ∀ l m, ofBytes (l ++ m) = ofBytes l + 256 ^ l.length * ofBytes m
  | [], m => by simp [ofBytes]
  | b :: r, m => by
    have ih := ofBytes_append r m
    simp only [List.cons_append, ofBytes, List.length_cons, Int.pow_succ, ih, Int.mul_add]
    rw [Int.mul_comm (256 ^ r.length) 256, Int.mul_assoc]
    omega
/-- The byte i of a word. -/
theorem ofBytes_get : ∀ (l : List UInt8) (i : Nat) (h : i < l.length), (ofBytes l / 256 ^ i) % 256 = (l[i].toNat : Int)
  | b :: r, 0, _ => by
    have hb : b.toNat < 256 := b.toNat_lt
    simp only [ofBytes, Int.pow_zero, Int.ediv_one, List.getElem_cons_zero]
    omega
  | b :: r, i + 1, h => by
    have ih := ofBytes_get r i (by simpa using h)
    have hb : b.toNat < 256 := b.toNat_lt
    have hp := pow256_pos i
    have e : ofBytes (b :: r) / 256 ^ (i + 1) = ofBytes r / 256 ^ i := by
      rw [Int.pow_succ, Int.mul_comm, ← Int.ediv_ediv_of_nonneg (by decide)]
      congr 1
      simp only [ofBytes]
      omega
    rw [e, ih]
    rfl
theorem ofBytes_high (l : List UInt8) : ofBytes l / 256 ^ l.length = 0 := Int.ediv_eq_zero_of_lt (ofBytes_nonneg l) (ofBytes_lt l)
theorem ofBytes_fit (l : List UInt8) (h : l.length ≤ 8) : fitW (ofBytes l) := by
  refine ⟨ofBytes_nonneg l, Int.lt_of_lt_of_le (ofBytes_lt l) ?_⟩
  have h1 : 256 ^ l.length ≤ 256 ^ 8 := Nat.pow_le_pow_right (by decide) h
  have h2 : ((256 ^ l.length : Nat) : Int) ≤ ((256 ^ 8 : Nat) : Int) := Int.ofNat_le.2 h1
  simpa using h2
/-- Words with the same bytes are the same. -/
theorem ofBytes_of : ∀ (n : Nat) (x : Int), 0 ≤ x → x / 256 ^ n = 0 → ofBytes ((List.range n).map fun i => UInt8.ofNat ((x / 256 ^ i) % 256).toNat) = x
  | 0, x, _, h => by simpa [ofBytes] using h.symm
  | n + 1, x, h0, h => by
    have hx : 0 ≤ x / 256 := Int.ediv_nonneg h0 (by decide)
    have hn : x / 256 / 256 ^ n = 0 := by
      rw [Int.ediv_ediv_of_nonneg (by decide), ← Int.pow_succ'] 
      exact h
    have ih := ofBytes_of n (x / 256) hx hn
    rw [List.range_succ_eq_map, List.map_cons, List.map_map, ofBytes]
    have e : (List.range n).map ((fun i => UInt8.ofNat ((x / 256 ^ i) % 256).toNat) ∘ Nat.succ) = (List.range n).map fun i => UInt8.ofNat ((x / 256 / 256 ^ i) % 256).toNat := by
      apply List.map_congr_left
      intro i _
      simp only [Function.comp]
      rw [Int.ediv_ediv_of_nonneg (by decide), ← Int.pow_succ']
    rw [e, ih]
    simp only [Int.pow_zero, Int.ediv_one, UInt8.toNat_ofNat']
    omega

theorem pack_length (tx : List UInt8) : (pack tx).length = (tx.length + 7) / 8 := by simp [pack]
theorem packW_fit (tx : List UInt8) (j : Nat) : fitW (packW tx j) := ofBytes_fit _ (by simp; omega)
theorem pack_fit (tx : List UInt8) : ∀ x ∈ pack tx, fitW x := by
  intro x hx
  simp only [pack, List.mem_map] at hx
  obtain ⟨j, _, rfl⟩ := hx
  exact packW_fit tx j
theorem pack_get (tx : List UInt8) (j : Nat) (h : j < (tx.length + 7) / 8) : (pack tx).getD j 0 = packW tx j := by
  rw [List.getD_eq_getElem?_getD, List.getElem?_eq_getElem (by rw [pack_length]; exact h)]
  simp [pack]
theorem byteAt_pack (tx : List UInt8) (i : Nat) (h : i < tx.length) : byteAt (pack tx) i = tx[i] := by
  unfold byteAt
  rw [pack_get tx (i / 8) (by omega), packW]
  have hl : i % 8 < ((tx.drop (8 * (i / 8))).take 8).length := by simp; omega
  rw [ofBytes_get _ _ hl]
  have e : ((tx.drop (8 * (i / 8))).take 8)[i % 8] = tx[i] := by
    simp only [List.getElem_take, List.getElem_drop]
    congr 1
    omega
  rw [e]
  simp
theorem unpack_pack (tx : List UInt8) : unpack (pack tx) tx.length = tx := by
  apply List.ext_getElem
  · simp [unpack]
  · intro i h1 h2
    simp only [unpack, List.getElem_map, List.getElem_range]
    exact byteAt_pack tx i h2
theorem sound_pack (k : Int) (tx : List UInt8) : soundH k (pack tx) tx.length = true := by
  unfold soundH
  by_cases h : tx.length % 8 = 0
  · simp [h]
  · have e : (pack tx).getD (tx.length / 8) 0 / 256 ^ (tx.length % 8) = 0 := by
      rw [pack_get tx _ (by omega), packW]
      have hl : ((tx.drop (8 * (tx.length / 8))).take 8).length = tx.length % 8 := by simp; omega
      rw [← hl]
      exact ofBytes_high _
    rw [decide_eq_true e, Bool.or_true]
theorem length_unpack (body : List Int) (n : Nat) : (unpack body n).length = n := by simp [unpack]
theorem pack_unpack (body : List Int) (n : Nat) (hl : body.length = (n + 7) / 8) (hf : ∀ x ∈ body, fitW x) (hs : soundH 2 body n = true) : pack (unpack body n) = body := by
  apply List.ext_getElem
  · rw [pack_length, length_unpack, hl]
  · intro j h1 h2
    have hx := hf body[j] (List.getElem_mem h2)
    have hg : body.getD j 0 = body[j] := by rw [List.getD_eq_getElem?_getD, List.getElem?_eq_getElem h2]; rfl
    simp only [pack, List.getElem_map, List.getElem_range, packW]
    have e : ∃ m, ((unpack body n).drop (8 * j)).take 8 = (List.range m).map (fun i => UInt8.ofNat ((body[j] / 256 ^ i) % 256).toNat) ∧ body[j] / 256 ^ m = 0 := by
      by_cases hc : 8 * j + 8 ≤ n
      · refine ⟨8, ?_, Int.ediv_eq_zero_of_lt hx.1 (by have := hx.2; simpa using this)⟩
        apply List.ext_getElem
        · simp [unpack]; omega
        · intro i g1 g2
          simp only [List.getElem_take, List.getElem_drop, unpack, List.getElem_map, List.getElem_range, byteAt]
          have hi : i < 8 := by simpa using g2
          rw [show (8 * j + i) / 8 = j by omega, show (8 * j + i) % 8 = i by omega, hg]
      · refine ⟨n % 8, ?_, ?_⟩
        · apply List.ext_getElem
          · simp [unpack]; omega
          · intro i g1 g2
            simp only [List.getElem_take, List.getElem_drop, unpack, List.getElem_map, List.getElem_range, byteAt]
            have hi : i < n % 8 := by simpa using g2
            rw [show (8 * j + i) / 8 = j by omega, show (8 * j + i) % 8 = i by omega, hg]
        · have hn : n % 8 ≠ 0 := by omega
          have : body.getD (n / 8) 0 / 256 ^ (n % 8) = 0 := by simpa [soundH, hn] using hs
          rwa [show n / 8 = j by omega, hg] at this
    obtain ⟨m, e1, e2⟩ := e
    rw [e1, ofBytes_of m _ hx.1 e2]

/-! ## A head's parts -/

def hK (x : Int) : Int := x % 256
def hT (x : Int) : Int := x % 4294967296 / 256
def hS (x : Int) : Nat := (x / 4294967296).toNat

theorem mayH_bounds {k t s : Int} (h : mayH k t s = true) : 1 ≤ k ∧ k ≤ 4 ∧ 0 ≤ t ∧ t ≤ 255 ∧ s ≤ 400 := by
  unfold mayH at h
  rw [decide_eq_true_eq] at h
  omega
theorem head_parts {k t : Int} {s : Nat} (h : mayH k t s = true) : hK (headW k t s) = k ∧ hT (headW k t s) = t ∧ hS (headW k t s) = s ∧ fitW (headW k t s) := by
  have := mayH_bounds h
  unfold hK hT hS headW fitW
  omega
theorem parts_head {x : Int} (h : fitW x) : headW (hK x) (hT x) (hS x) = x := by
  unfold fitW at h
  unfold headW hK hT hS
  omega

theorem Ob.may_split {o : Ob} (h : o.may = true) : hasH o.kind o.fs.length o.tx.length = true ∧ mayH o.kind o.tag o.size = true := by
  simpa [Ob.may] using h
theorem Ob.body_length (o : Ob) : o.body.length = o.long := by
  unfold Ob.body Ob.long Ob.size longH sizeH
  split
  · rw [pack_length]
  · rfl
theorem Ob.lay_length (o : Ob) : o.lay.length = o.words := by simp [Ob.lay, Ob.words, o.body_length]; omega
theorem Ob.words_pos (o : Ob) : 1 ≤ o.words := by unfold Ob.words; omega

def mkOb (k t : Int) (body : List Int) (s : Nat) : Ob := if k = 2 then ⟨k, t, [], unpack body s⟩ else ⟨k, t, body, []⟩
def decodeOk (x : Int) (r : List Int) : Bool := mayH (hK x) (hT x) (hS x) && decide (longH (hK x) (hS x) ≤ r.length) && soundH (hK x) (r.take (longH (hK x) (hS x))) (hS x)
def decode : List Int → Option Ob
  | [] => none
  | x :: r => if decodeOk x r then some (mkOb (hK x) (hT x) (r.take (longH (hK x) (hS x))) (hS x)) else none

theorem Ob.mk_body {o : Ob} (h : o.may = true) : mkOb o.kind o.tag o.body o.size = o := by
  have h1 := (Ob.may_split h).1
  unfold mkOb Ob.body Ob.size sizeH
  unfold hasH at h1
  by_cases hk : o.kind = 2
  · simp only [hk, if_true, decide_eq_true_eq] at h1 ⊢
    rw [unpack_pack]
    exact Ob.ext' hk.symm rfl (List.length_eq_zero_iff.1 h1).symm rfl
  · simp only [hk, if_false, decide_eq_true_eq] at h1 ⊢
    exact Ob.ext' rfl rfl rfl (List.length_eq_zero_iff.1 h1).symm
theorem Ob.sound {o : Ob} : soundH o.kind o.body o.size = true := by
  unfold Ob.body Ob.size sizeH
  by_cases hk : o.kind = 2
  · simp only [hk, if_true]
    exact sound_pack 2 o.tx
  · simp [soundH, hk]

theorem decode_lay {o : Ob} (h : o.may = true) (rest : List Int) : decode (o.lay ++ rest) = some o := by
  obtain ⟨p1, p2, p3, _⟩ := head_parts (Ob.may_split h).2
  have hb : (o.body ++ rest).take o.long = o.body := by rw [List.take_append_of_le_length (by rw [o.body_length]; omega), List.take_of_length_le (by rw [o.body_length]; omega)]
  have hd : decodeOk o.head (o.body ++ rest) = true := by
    unfold decodeOk Ob.head
    rw [p1, p2, p3]
    change (mayH o.kind o.tag o.size && decide (o.long ≤ _) && soundH o.kind ((o.body ++ rest).take o.long) o.size) = true
    rw [hb, (Ob.may_split h).2, Ob.sound]
    have : o.long ≤ (o.body ++ rest).length := by rw [List.length_append, o.body_length]; omega
    rw [decide_eq_true this]
    rfl
  simp only [Ob.lay, List.cons_append, decode, hd, if_true]
  unfold Ob.head
  rw [p1, p2, p3]
  change some (mkOb o.kind o.tag ((o.body ++ rest).take o.long) o.size) = some o
  rw [hb, Ob.mk_body h]

theorem decode_some {ws : List Int} {o : Ob} (hf : ∀ x ∈ ws, fitW x) (h : decode ws = some o) : o.may = true ∧ o.fit ∧ ws = o.lay ++ ws.drop o.words := by
  cases ws with
  | nil => cases h
  | cons x r =>
    simp only [decode] at h
    by_cases hd : decodeOk x r = true
    · rw [if_pos hd] at h
      have ho := Option.some.inj h
      simp only [decodeOk, Bool.and_eq_true, decide_eq_true_eq] at hd
      obtain ⟨⟨hm, hl⟩, hs⟩ := hd
      have hx := hf x (by simp)
      have hfr : ∀ y ∈ r.take (longH (hK x) (hS x)), fitW y := fun y hy => hf y (List.mem_cons_of_mem _ (List.mem_of_mem_take hy))
      have hbl : (r.take (longH (hK x) (hS x))).length = longH (hK x) (hS x) := by rw [List.length_take]; omega
      have key : o.kind = hK x ∧ o.tag = hT x ∧ o.size = hS x ∧ o.body = r.take (longH (hK x) (hS x)) ∧ hasH o.kind o.fs.length o.tx.length = true ∧ o.fit := by
        subst ho
        unfold mkOb
        by_cases hk : hK x = 2
        · simp only [hk, if_true]
          have hp : pack (unpack (r.take (longH 2 (hS x))) (hS x)) = r.take (longH 2 (hS x)) := by
            rw [hk] at hbl hfr hs
            exact pack_unpack _ _ (by rw [hbl]; rfl) hfr hs
          refine ⟨trivial, trivial, by simp [Ob.size, sizeH, length_unpack], by simp [Ob.body, hp], by simp [hasH], fun y hy => by cases hy⟩
        · simp only [hk, if_false]
          refine ⟨trivial, trivial, ?_, by simp [Ob.body, hk], by simp [hasH, hk], hfr⟩
          simp only [Ob.size, sizeH, hk, if_false, hbl]
          simp [longH, hk]
      obtain ⟨k1, k2, k3, k4, k5, k6⟩ := key
      have hlong : o.long = longH (hK x) (hS x) := by unfold Ob.long; rw [k1, k3]
      refine ⟨by unfold Ob.may; rw [k5, k1, k2, k3, hm]; rfl, k6, ?_⟩
      unfold Ob.lay Ob.head Ob.words
      rw [k1, k2, k3, k4, parts_head hx, hlong, Nat.add_comm 1, List.drop_succ_cons, List.cons_append, List.take_append_drop]
    · rw [if_neg hd] at h
      cases h

/-! ## A row of objects -/

def flat (obs : List Ob) : List Int := obs.flatMap Ob.lay
def AllOk (obs : List Ob) : Prop := ∀ o ∈ obs, o.may = true ∧ o.fit
def parse : Nat → List Int → Option (List Ob)
  | _, [] => some []
  | 0, _ => none
  | n + 1, ws => match decode ws with
    | none => none
    | some o => (parse n (ws.drop o.words)).map (o :: ·)

theorem flat_cons (o : Ob) (obs : List Ob) : flat (o :: obs) = o.lay ++ flat obs := by simp [flat]
theorem flat_append (a b : List Ob) : flat (a ++ b) = flat a ++ flat b := by simp [flat]
theorem parse_flat : ∀ (obs : List Ob) (n : Nat), AllOk obs → (flat obs).length ≤ n → parse n (flat obs) = some obs
  | [], n, _, _ => by cases n <;> rfl
  | o :: obs, n, h, hn => by
    have hw := o.words_pos
    have hll : o.lay.length = o.words := o.lay_length
    rw [flat_cons, List.length_append, hll] at hn
    obtain ⟨m, rfl⟩ : ∃ m, n = m + 1 := ⟨n - 1, by omega⟩
    have ih := parse_flat obs m (fun p hp => h p (by simp [hp])) (by omega)
    have hd := decode_lay (h o (by simp)).1 (flat obs)
    have hne : flat (o :: obs) = o.head :: (o.body ++ flat obs) := by rw [flat_cons]; rfl
    rw [flat_cons] at hne
    rw [flat_cons, hne, parse, ← hne, hd]
    simp only
    rw [List.drop_append_of_le_length (by omega), List.drop_eq_nil_of_le (by omega), List.nil_append, ih]
    rfl
    intro h0; cases h0
theorem parse_some : ∀ (n : Nat) (ws : List Int) (obs : List Ob), (∀ x ∈ ws, fitW x) → parse n ws = some obs → ws = flat obs ∧ AllOk obs
  | 0, [], obs, _, h => by cases h; exact ⟨rfl, fun _ h => by cases h⟩
  | n + 1, [], obs, _, h => by cases h; exact ⟨rfl, fun _ h => by cases h⟩
  | 0, x :: r, obs, _, h => by cases h
  | n + 1, x :: r, obs, hf, h => by
    rw [parse] at h
    · split at h
      · cases h
      · rename_i o hd
        obtain ⟨h1, h2, h3⟩ := decode_some hf hd
        simp only [Option.map_eq_some_iff] at h
        obtain ⟨os, hp, rfl⟩ := h
        obtain ⟨e, hok⟩ := parse_some n _ os (fun y hy => hf y (List.mem_of_mem_drop hy)) hp
        refine ⟨by rw [flat_cons, ← e]; exact h3, fun p hp => ?_⟩
        rcases List.mem_cons.1 hp with rfl | hp
        · exact ⟨h1, h2⟩
        · exact hok p hp
    · intro h0; cases h0

theorem flat_inj {a b : List Ob} (ha : AllOk a) (hb : AllOk b) (h : flat a = flat b) : a = b := by
  have h1 := parse_flat a (flat a).length ha (Nat.le_refl _)
  have h2 := parse_flat b (flat a).length hb (by rw [h]; exact Nat.le_refl _)
  rw [← h] at h2
  rw [h2] at h1
  exact (Option.some.inj h1).symm

theorem Ob.lay_fit {o : Ob} (h : o.may = true) (hf : o.fit) : ∀ x ∈ o.lay, fitW x := by
  intro x hx
  rcases List.mem_cons.1 hx with rfl | hx
  · exact (head_parts (Ob.may_split h).2).2.2.2
  · unfold Ob.body at hx
    split at hx
    · exact pack_fit _ x hx
    · exact hf x hx
theorem flat_fit {obs : List Ob} (h : AllOk obs) : ∀ x ∈ flat obs, fitW x := by
  intro x hx
  simp only [flat, List.mem_flatMap] at hx
  obtain ⟨o, ho, hx⟩ := hx
  exact Ob.lay_fit (h o ho).1 (h o ho).2 x hx

/-! ## Where objects stand -/

def objAt : List Ob → Nat → Option Ob
  | [], _ => none
  | o :: os, i => if i = 0 then some o else if i < o.words then none else objAt os (i - o.words)
def marks : List Ob → List Bool
  | [] => []
  | o :: os => true :: (List.replicate o.long false ++ marks os)
def starts : Nat → List Ob → List Nat
  | _, [] => []
  | at_, o :: os => at_ :: starts (at_ + o.words) os

theorem marks_length : ∀ obs, (marks obs).length = (flat obs).length
  | [] => rfl
  | o :: os => by
    rw [flat_cons, List.length_append, o.lay_length, ← marks_length os]
    simp [marks, Ob.words]
    omega
theorem marks_get : ∀ (obs : List Ob) (i : Nat), i < (flat obs).length → (marks obs)[i]? = some (objAt obs i).isSome
  | [], i, h => by simp [flat] at h
  | o :: os, 0, _ => by simp [marks, objAt]
  | o :: os, i + 1, h => by
    rw [flat_cons, List.length_append, o.lay_length] at h
    simp only [marks, List.getElem?_cons_succ, objAt, Nat.add_one_ne_zero, if_false]
    by_cases hi : i + 1 < o.words
    · rw [if_pos hi]
      unfold Ob.words at hi
      rw [List.getElem?_append_left (by simp; omega), List.getElem?_replicate]
      simp; omega
    · rw [if_neg hi]
      have ih := marks_get os (i + 1 - o.words) (by omega)
      unfold Ob.words at hi ih ⊢
      rw [List.getElem?_append_right (by simp; omega), List.length_replicate, ← ih]
      congr 1
      omega
theorem objAt_mem : ∀ (obs : List Ob) (i : Nat) (o : Ob), objAt obs i = some o → o ∈ obs
  | [], _, _, h => by cases h
  | p :: os, i, o, h => by
    unfold objAt at h
    split at h
    · cases h; simp
    · split at h
      · cases h
      · exact List.mem_cons_of_mem _ (objAt_mem os _ o h)
theorem objAt_flat : ∀ (obs : List Ob) (i : Nat) (o : Ob), objAt obs i = some o → ∃ a b, obs = a ++ o :: b ∧ (flat a).length = i
  | [], _, _, h => by cases h
  | p :: os, i, o, h => by
    unfold objAt at h
    split at h
    · rename_i hi
      cases h
      exact ⟨[], os, rfl, by simp [flat, hi]⟩
    · split at h
      · cases h
      · obtain ⟨a, b, e, hl⟩ := objAt_flat os _ o h
        refine ⟨p :: a, b, by rw [e]; rfl, ?_⟩
        rw [flat_cons, List.length_append, p.lay_length, hl]
        omega
theorem objAt_here (a b : List Ob) (o : Ob) : objAt (a ++ o :: b) (flat a).length = some o := by
  induction a with
  | nil => simp [flat, objAt]
  | cons p a ih =>
    have hw := p.words_pos
    rw [flat_cons, List.length_append, p.lay_length, List.cons_append, objAt, if_neg (by omega), if_neg (by omega), Nat.add_sub_cancel_left]
    exact ih
theorem objAt_words {obs : List Ob} {i : Nat} {o : Ob} (h : objAt obs i = some o) : ∃ rest, (flat obs).drop i = o.lay ++ rest ∧ i + o.words ≤ (flat obs).length := by
  obtain ⟨a, b, rfl, hl⟩ := objAt_flat obs i o h
  refine ⟨flat b, ?_, ?_⟩
  · rw [flat_append, List.drop_append_of_le_length (by omega), List.drop_eq_nil_of_le (by omega), List.nil_append, flat_cons]
  · rw [flat_append, flat_cons, List.length_append, List.length_append, o.lay_length]
    omega

/-! ## Words that may be fields -/

/-- The object to which x points, as its distance from the semispace's first word. -/
def refers (first : Int) (obs : List Ob) (x : Int) : Option Nat := if wOk x && decide (first ≤ wAt x) && (objAt obs (wAt x - first).toNat).isSome then some (wAt x - first).toNat else none
def fieldOk (first : Int) (obs : List Ob) (x : Int) : Bool := (refers first obs x).isSome || wIs x
def fieldsOk (first : Int) (obs : List Ob) : Bool := obs.all fun o => o.fs.all (fieldOk first obs)

end Go.Proofs.Ytnjpjhlodamanaa
