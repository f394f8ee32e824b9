/-
  'New', 'Free', 'Cut' of an arena.
  Conditions: as stated.
-/
import Derived.Test.YtnjpjhlodamanaaArena
namespace Go.Proofs.Ytnjpjhlodamanaa
open Go.ChangeShapes Go.WideShapes Go.ChangeAt Go.RowKit
set_option linter.unusedVariables false
set_option linter.unusedSimpArgs false
set_option maxRecDepth 100000

def Ar.new (n : Nat) : Ar := { ws := List.replicate n 0, rs := [] }
theorem Ar.new_ok {n : Nat} (h1 : 1 ≤ n) (h2 : n ≤ 20000) : (Ar.new n).Ok :=
  ⟨by simp [Ar.new, Chain], by simpa [Ar.new] using h1, by simpa [Ar.new] using h2, fun x hx => by
    simp only [Ar.new, List.mem_replicate] at hx
    rw [hx.2]; decide⟩

theorem made_words (n : Nat) : (madeCells #[Value.int .u64 0] n).toList = words (List.replicate n 0) := by
  rw [toList_madeCells_one]
  simp

theorem new_no {w : World} {n : Int} (h : n < 1 ∨ 20000 < n) :
    Calls Try.prog 18 #[.int .i64 n] w fun e w' => e = .returned (.tuple #[.pointer none, .bool false]) ∧ w = w' := by
  rcases h with h | h
  · go_enter Try.func18, Try.ntmps18
    go_wp2
    go_ret2
    exact ⟨rfl, rfl⟩
  · have h' : ¬ n < 1 := by omega
    go_enter Try.func18, Try.ntmps18
    go_wp2
    go_ret2
    exact ⟨rfl, rfl⟩

theorem new_yes {w : World} {n : Nat} (h1 : 1 ≤ n) (h2 : n ≤ 20000) :
    Calls Try.prog 18 #[.int .i64 n] w fun e w' => ∃ p bw bm bv, e = .returned (.tuple #[.pointer (some ⟨p, 0, none⟩), .bool true]) ∧ ArenaIn w' p bw bm bv (Ar.new n) ∧ Below w.heap.size w w' ∧ ∀ k, foot p bw bm bv k → w.heap.size ≤ k := by
  obtain ⟨i0, hi, hz0, hz1, hz2⟩ := info_parts info_word
  have h3 : 1 ≤ (n : Int) := by omega
  have hmm := @run_makeMap Try.prog
  go_enter Try.func18, Try.ntmps18
  go_wp2_with (with_reducible refine wpList_make_full _ rfl _ _ _ rfl w.heap.size 39 i0 (.int .u64 0) 1 under_words hi hz0 hz1 .i64 .i64 _ _ n rfl rfl rfl rfl ?q1 ?q2 (Nat.le_refl _) ?_)
  case q1 => rw [hz2]; omega
  case q2 => simp only [maxLen]; omega
  intro w1 hown hgrow
  have HO := Lib.hid hown
  have hsz : w.heap.size < w1.heap.size := (hown.lt _ rfl).2
  clear hown
  go_wp2
  go_ret2
  have hrow : rowAt w1 w.heap.size 39 (words (Ar.new n).ws) := by
    have h := HO.out
    rw [made_words] at h
    rcases owns_parts h with ⟨h0, _⟩ | ⟨g', cap', rest', h0, _, hr', hl', hc', _⟩
    · cases h0
    cases h0
    have hrest : rest' = [] := List.length_eq_zero_iff.1 (by omega)
    rw [hrest, List.append_nil] at hr'
    exact hr'
  have hlen : (Ar.new n).ws.length = n := by simp [Ar.new]
  have hb1 : Below w.heap.size w w1 := (Below.refl _ w).grown hgrow (Nat.le_refl _) (by intro k hk; cases hk)
  refine ⟨_, w.heap.size, w1.heap.size, .slice none 0 0, rfl, ⟨?_, (hrow.alloc _).alloc _, ?_, World.ownsRow_nil _ _ _ _, ?_, ?_, ?_, ?_, Ar.new_ok h1 h2⟩, ?_, ?_⟩
  · rw [hlen]
    exact rowAt.made_at _ _ (by simp)
  · exact (mapAt.made w1).of_heap (Below.heap_alloc _ _ _ (by simp)) |>.congr fun k => by simp [Ar.slot, Ar.find, Ar.new, findR]
  · simp; omega
  · simp
  · omega
  · intro g hg; cases hg
  · exact (hb1.alloc (by omega) _).alloc (by simp; omega) _
  · rintro k (rfl | rfl | rfl | hk)
    · omega
    · exact Nat.le_refl _
    · omega
    · cases hk

theorem Ar.bs_free {A : Ar} (h : A.Ok) {k : Int} {n : Nat} (hf : A.find k = some n) :
    ∃ i, i < A.bs.length ∧ A.bs.countP (· < k) = i ∧ (A.free k).bs = A.bs.take i ++ A.bs.drop (i + 1) := by
  obtain ⟨i, a, b, c⟩ := dropR_at h.chain hf
  refine ⟨i, by simpa [Ar.bs] using a, b, ?_⟩
  simp [Ar.bs, Ar.free, c, List.map_take, List.map_drop]

theorem run_clear_words {w : World} {b o n c : Nat} {cs : List Value} (h : rowAt w b 39 cs) (hn : 0 < n) (hl : o + n ≤ cs.length) :
    ∃ w', (∀ ty, (Builtin.clear_ #[30] ty #[.slice (some ⟨b, o, none⟩) n c]).run Try.prog w = .ok (.tuple #[]) w') ∧ rowAt w' b 39 (cs.take o ++ List.replicate n (.int .u64 0) ++ cs.drop (o + n)) ∧ Upon (fun k => k = b) w w' := by
  refine ⟨w.setCells b o (List.replicate n (.int .u64 0)), fun ty => ?_, ?_, Upon.setCells (S := fun k => k = b) rfl _ _ _⟩
  · exact Lib.run_clear_slice w _ _ ty _ under_words (fun w => by kernel_rfl) rfl rfl b o n c hn (fun j hj => h.cell_there _ (by omega)) (fun j hj => h.free _)
  · have := rowAt.setCells (List.replicate n (.int .u64 0)) o _ _ h
    rw [splice_eq _ _ _ (by simp; omega)] at this
    simpa using this

theorem cut_low {w : World} {p : Nat} {n : Int} (hn : n < 1) :
    Calls Try.prog 20 #[.pointer (some ⟨p, 0, none⟩), .int .i64 n] w fun e w' => e = .returned (.tuple #[.int .i64 0, .bool false]) ∧ w = w' := by
  go_enter Try.func20, Try.ntmps20
  go_wp2
  go_ret2
  exact ⟨rfl, rfl⟩

theorem Ar.bs_cutted (A : Ar) (n : Int) : (A.cutted n).bs = A.bs.take (A.idx n) ++ (A.at n : Int) :: A.bs.drop (A.idx n) := by
  simp [Ar.bs, Ar.cutted, List.map_take, List.map_drop]

def Ar.cutAt (A : Ar) (n : Int) : Int := if A.has n then A.at n else 0

theorem cut_any {w : World} {p bw bm : Nat} {bv : Value} {A : Ar} (h : ArenaIn w p bw bm bv A) (n : Int) (hn64 : n ≤ 9223372036854775807) :
    Calls Try.prog 20 #[.pointer (some ⟨p, 0, none⟩), .int .i64 n] w fun e w' => e = .returned (.tuple #[Value.int .i64 (A.cutAt n), .bool (A.has n)]) ∧
      ∃ bv', ArenaIn w' p bw bm bv' (A.cut n) ∧ Upon (foot p bw bm bv) w w' ∧ ∀ g, bv'.ownBlock = some g → bv.ownBlock = some g ∨ w.heap.size ≤ g := by
  by_cases hn : n < 1
  · have hh : A.has n = false := by simp [Ar.has]; omega
    refine (cut_low hn).mono ?_
    rintro e w' ⟨rfl, rfl⟩
    have hc : A.cut n = A := by simp [Ar.cut, hh]
    exact ⟨by simp [hh, Ar.cutAt], bv, by rw [hc]; exact h, Upon.refl _ _, fun g hg => .inl hg⟩
  · have hn1 : 1 ≤ n := by omega
    obtain ⟨hat, hidx⟩ := h.ok.at_le hn1
    have hm := h.ok.max
    have hlen := h.ok.chain.len
    have hbl : A.bs.length = A.rs.length := by simp [Ar.bs]
    by_cases hroom : n ≤ (A.ws.length : Int) - (A.at n : Int)
    · have hh : A.has n = true := by simp [Ar.has]; omega
      obtain ⟨okc, hnone, hfind⟩ := h.ok.cutted hh
      have hlc := Ar.length_cutted hh
      have hc : A.cut n = A.cutted n := by simp [Ar.cut, hh]
      have hca : A.cutAt n = A.at n := by simp [Ar.cutAt, hh]
      have hbs := Ar.bs_cutted A n
      obtain ⟨m, rfl⟩ := Int.eq_ofNat_of_zero_le (a := n) (by omega)
      have hidb : A.idx (m : Int) ≤ A.bs.length := by omega
      have HB := Lib.hid hbl
      have HH := Lib.hid hh
      have HCUT := Lib.hid hc
      have HCA := Lib.hid hca
      have HBS := Lib.hid hbs
      have HLC := Lib.hid hlc
      have HF := Lib.hid hfind
      have HN := Lib.hid hnone
      have hib : (A.idx (m : Int) : Int) ≤ 20000 := by omega
      clear hbl hh hc hca hbs hlc hfind hnone
      go_enter Try.func20, Try.ntmps20
      go_wp2_with fail
      refine (room_any h (m : Int)).mono ?_
      rintro e w1 ⟨rfl, h1, hup1⟩
      have c0 : w1.cell? ⟨p, 0, none⟩ = some (.slice (some ⟨bw, 0, none⟩) A.ws.length A.ws.length) := (h1.root.cell 0).trans rfl
      obtain ⟨w2, hrun2, hw2, hup2⟩ := run_clear_words (o := A.at (m : Int)) (n := m) (c := m) h1.words (by omega) (by simp; omega)
      have hroot2 := h1.root.upon hup2 h.pw
      have hregs2 := h1.regs.upon hup2 h.wm.symm
      have hbases2 := owns_upon h1.bases hup2 fun g hg => (h.own g hg).2.1
      have d1 : w2.cell? ⟨p, 1, none⟩ = some (.map (some bm)) := (hroot2.cell 1).trans rfl
      obtain ⟨w3, hrun3, hregs3, hup3⟩ := run_mapUpdate_new under_map under_int hregs2 (A.at (m : Int) : Int) (.slice (some ⟨bw, A.at (m : Int), none⟩) m m) (by simp [Ar.slot, HN.out])
      have hroot3 := hroot2.upon hup3 h.pm
      have hw3 := hw2.upon hup3 h.wm
      have hbases3 := owns_upon hbases2 hup3 fun g hg => (h.own g hg).2.2
      have e2 : w3.cell? ⟨p, 2, none⟩ = some bv := (hroot3.cell 2).trans rfl
      have HW := Lib.hid hw3
      have HR := Lib.hid hroot3
      have HG := Lib.hid hregs3
      have HS := Lib.hid hbases3
      clear hw3 hroot3 hregs3 hbases3 hw2 hroot2 hregs2 hbases2
      go_wp2_with fail
      have hup4 : Upon (fun _ => False) w3 (w3.alloc (.cells #[.int .i64 (A.at (m : Int) : Int)] 3)) := Upon.alloc _ _ _
      have hb4 := owns_upon HS.out hup4 fun _ _ h => h
      have hlt3 : ∀ g, bv.ownBlock = some g → g < w3.heap.size := fun g hg => (HS.out.lt g hg).2
      have hvb : rowAt (w3.alloc (.cells #[.int .i64 (A.at (m : Int) : Int)] 3)) w3.heap.size 3 [.int .i64 (A.at (m : Int) : Int)] := rowAt.made w3 _ _
      refine (insert_own hb4 (A.idx (m : Int)) hidb (A.at (m : Int) : Int) w3.heap.size hvb (fun g hg e => by have := hlt3 g hg; omega) (Nat.zero_le _) (by have := HB.out; omega)).mono ?_
      rintro e w5 ⟨v', rfl, hown5, hup5, hob5⟩
      obtain ⟨va, vc, rfl⟩ := owns_slice hown5
      have hroot5 := (HR.out.upon hup4 fun h => h).upon hup5 fun e => (h.own p e).1 rfl
      have k2 : w5.cell? ⟨p, 2, none⟩ = some bv := (hroot5.cell 2).trans rfl
      have f2 := hroot5.free 2
      have HR5 := Lib.hid (hroot5.set 2 (.slice va (A.bs.length + 1) vc))
      have HO5 := Lib.hid hown5
      have HOB := Lib.hid hob5
      have hup6 : Upon (fun k => k = p) w5 (w5.setCell ⟨p, 2, none⟩ (.slice va (A.bs.length + 1) vc)) := Upon.setCell _ _ rfl
      clear hroot5 hown5 hob5 hb4 hvb
      go_wp2
      go_ret2
      have hob : ∀ g, (Value.slice va (A.bs.length + 1) vc).ownBlock = some g → bv.ownBlock = some g ∨ w3.heap.size ≤ g := fun g hg => by
        rcases HOB.out g hg with h | h
        · exact .inl h
        · exact .inr (by simp at h; omega)
      have hpl := HR.out.lt
      have hwl := HW.out.lt
      have hml := HG.out.lt
      have hown : ∀ g, (Value.slice va (A.bs.length + 1) vc).ownBlock = some g → g ≠ p ∧ g ≠ bw ∧ g ≠ bm := fun g hg => by
        rcases hob g hg with h1 | h1
        · exact h.own g h1
        · omega
      have hs3 : w.heap.size ≤ w3.heap.size := Nat.le_trans hup1.size (Nat.le_trans hup2.size hup3.size)
      have ec : A.cut (m : Int) = A.cutted (m : Int) := HCUT.out
      rw [ec]
      refine ⟨by rw [HH.out, HCA.out]; rfl, .slice va (A.bs.length + 1) vc, ⟨?_, ?_, ?_, ?_, h.pw, h.pm, h.wm, hown, okc⟩, ?_, ?_⟩
      · rw [HLC.out]
        exact HR5.out
      · have := ((HW.out.upon hup4 fun h => h).upon hup5 fun e => (h.own bw e).2.1 rfl).upon hup6 (Ne.symm h.pw)
        simpa [Ar.cutted, List.map_take, List.map_drop] using this
      · refine (((HG.out.upon hup4 fun h => h).upon hup5 fun e => (h.own bm e).2.2 rfl).upon hup6 (Ne.symm h.pm)).congr fun j => ?_
        simp only [Ar.slot, HF.out]
        split <;> rename_i hj
        · subst hj; simp
        · rfl
      · have hl : (A.cutted (m : Int)).bs.length = A.bs.length + 1 := by rw [HBS.out]; simp; omega
        rw [hl, HBS.out]
        exact owns_upon HO5.out hup6 fun g hg => (hown g hg).1
      · have u1 : Upon (foot p bw bm bv) w w3 := ((hup1.mono fun _ _ h => h.elim).trans hup2 fun k _ hk => .inr (.inl hk)).trans hup3 fun k _ hk => .inr (.inr (.inl hk))
        exact ((u1.trans hup4 fun _ _ h => h.elim).trans hup5 fun k _ hk => .inr (.inr (.inr hk))).trans hup6 fun k _ hk => .inl hk
      · intro g hg
        rcases hob g hg with h1 | h1
        · exact .inl h1
        · exact .inr (by omega)
    · have hh : A.has n = false := by simp [Ar.has]; omega
      have hc : A.cut n = A := by simp [Ar.cut, hh]
      have hca : A.cutAt n = 0 := by simp [Ar.cutAt, hh]
      have HCA := Lib.hid hca
      have HH := Lib.hid hh
      have HCUT := Lib.hid hc
      have hroom' : (A.ws.length : Int) - (A.at n : Int) < n := by omega
      clear hh hc hca
      go_enter Try.func20, Try.ntmps20
      go_wp2_with fail
      refine (room_any h n).mono ?_
      rintro e w1 ⟨rfl, h1, hup1⟩
      have c0 : w1.cell? ⟨p, 0, none⟩ = some (.slice (some ⟨bw, 0, none⟩) A.ws.length A.ws.length) := (h1.root.cell 0).trans rfl
      go_wp2
      go_ret2
      exact ⟨by rw [HH.out, HCA.out]; rfl, bv, by rw [HCUT.out]; exact h1, hup1.mono fun _ _ h => h.elim, fun g hg => .inl hg⟩

end Go.Proofs.Ytnjpjhlodamanaa
