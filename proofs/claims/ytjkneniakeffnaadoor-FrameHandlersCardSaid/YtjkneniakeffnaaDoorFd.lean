/-
  Package frame: Roots, the words of a machine that may point into its heap.
  Conditions: as each states.
-/
import Derived.Test.YtjkneniakeffnaaDoorFc
import Derived.Test.YtjkneniakeffnaaDoorCoIn
namespace Go.Proofs.YtjkneniakeffnaaDoor
open Go.ChangeShapes Go.WideShapes Go.ChangeAt Go.RowKit
set_option linter.unusedVariables false
set_option linter.unusedSimpArgs false
set_option maxRecDepth 100000

def selfs (l : List PFr) : List Int := l.map fun f => f.2.2.2
def rootsP (M : PMa) : List Int := M.st ++ selfs M.fr ++ [M.res]
def RtPost (w : World) (l : List Int) (e : Ending) (w' : World) : Prop :=
  ∃ v, e = .returned v ∧ w'.ownsRow w.heap.size 24 1 v l.length (wdL l) ∧ Below w.heap.size w w'
theorem frL_get : ∀ (l : List PFr) (k : Nat) (f : PFr), l[k]? = some f → (frL l)[k * 4]? = some (.int .i64 f.1) ∧ (frL l)[k * 4 + 1]? = some (.int .i64 f.2.1) ∧ (frL l)[k * 4 + 2]? = some (.int .i64 f.2.2.1) ∧ (frL l)[k * 4 + 3]? = some (.int .u64 f.2.2.2)
  | [], k, _, h => by simp at h
  | x :: l, 0, h, e => by simp at e; subst e; simp [frL, frC]
  | x :: l, k + 1, h, e => by
    have ih := frL_get l k h (by simpa using e)
    rw [show (k + 1) * 4 = k * 4 + 1 + 1 + 1 + 1 by omega]
    simpa [frL, frC] using ih
theorem owns_below1 {w w' : World} {B n : Nat} {T : TypeId} {v : Value} {xs : List Value} (h : w.ownsRow B T 1 v n xs) (hb : Below w.heap.size w w') : w'.ownsRow B T 1 v n xs := owns_upon h (Upon.of_below hb) fun _ _ t => t
/-- Where Roots stands: so many frames are told. -/
structure RtIn (w W : World) (src : List Value) (l : List Int) (a : Option Addr) (c : Nat) : Prop where
  row : rowAt W w.heap.size 34 src
  own : W.ownsRow (w.heap.size + 1) 24 1 (.slice a l.length c) l.length (wdL l)
  hb : Below w.heap.size w W
theorem RtIn.push {w W X w2 : World} {src : List Value} {l : List Int} {a a2 : Option Addr} {c c2 : Nat} {x : Int} {n : Nat} (h : RtIn w W src l a c) (hX : Below W.heap.size W X) (ho : w2.ownsRow (w.heap.size + 1) 24 1 (.slice a2 n c2) n (wdL l ++ [.int .u64 x])) (hn : n = (l ++ [x]).length) (hg : X.grownBy w2 (Value.slice a l.length c).ownBlock) :
    RtIn w w2 src (l ++ [x]) a2 c2 := by
  subst hn
  have fr : ∀ g, (Value.slice a l.length c).ownBlock = some g → w.heap.size + 1 ≤ g := fun g hg => (own_ge h.own g hg).1
  have hu : Upon (fun k => w.heap.size + 1 ≤ k) W w2 := (Upon.of_below hX).trans (Upon.grown (S := fun k => w.heap.size + 1 ≤ k) hg (fun k hk => fr k hk)) (fun i hi h => h)
  exact ⟨h.row.upon hu (by omega), by simpa using ho, h.hb.trans (hu.belowB h.hb.size fun k hk => by omega)⟩

theorem rt_end {w W : World} {src : List Value} {l : List Int} {x : Int} {a : Option Addr} {c : Nat} (h : RtIn w W src (l ++ [x]) a c) : RtPost w (l ++ [x]) (.returned (.slice a (l.length + 1) c)) W := by
  have e : (l ++ [x]).length = l.length + 1 := by simp
  have o := h.own
  rw [e] at o
  refine ⟨_, rfl, ?_, h.hb⟩
  rw [e]
  exact ⟨o.1, o.2.imp id fun ⟨g, cap, cur, h1, h2, h3⟩ => ⟨g, cap, cur, h1, by omega, h3⟩⟩
set_option maxHeartbeats 4000000 in
theorem roots_any {S : Nat → Prop} {w : World} {s f h : Value} (M : PMa) (k : maAt S w s f h M) (hF : maF M) :
    Calls Tryd.prog 10 #[maV M.z0 M.z1 M.z2 M.z3 s f h M.state M.res M.code] w (RtPost w (rootsP M)) := by
  obtain ⟨z0, z1, z2, z3, st, fr, hd, sta, res, cod⟩ := M
  obtain ⟨k1, k2, k3⟩ := k
  obtain ⟨a1, c1, rfl⟩ := k1.slice
  obtain ⟨a2, c2, rfl⟩ := k2.slice
  obtain ⟨a3, c3, rfl⟩ := k3.slice
  have n1 : st.length ≤ 100000 := hF.n1
  have n2 : fr.length ≤ 100000 := hF.n2
  obtain ⟨W, hW⟩ : ∃ W, w.alloc (.cells #[.int .i64 z0, .int .i64 z1, .int .i64 z2, .int .i64 z3, .slice a1 st.length c1, .slice a2 fr.length c2, .slice a3 hd.length c3, .int .i64 sta, .int .u64 res, .int .i64 cod] 34) = W := ⟨_, rfl⟩
  have BW := Lib.hid (show Below w.heap.size w W by rw [← hW]; exact down_alloc (Below.refl _ _) _)
  have R1 := Lib.hid (show rowAt W w.heap.size 34 [.int .i64 z0, .int .i64 z1, .int .i64 z2, .int .i64 z3, .slice a1 st.length c1, .slice a2 fr.length c2, .slice a3 hd.length c3, .int .i64 sta, .int .u64 res, .int .i64 cod] by rw [← hW]; exact rowAt.made _ _ _)
  have HS := Lib.hid (show W.heap.size = w.heap.size + 1 by rw [← hW]; simp)
  have K1 := Lib.hid (k1.below BW.out)
  have K2 := Lib.hid k2
  have N1 := Lib.hid n1
  have N2 := Lib.hid n2
  obtain ⟨i0, hi, hz0, hz1, hz2⟩ := info_parts info_W
  have HI := Lib.hid hi
  have Z0 := Lib.hid hz0
  have Z1 := Lib.hid hz1
  have Z2 := Lib.hid hz2
  obtain ⟨d0, d1, d2, d3, d4, d5, d6, d7, d8, d9⟩ := cells10 R1.out
  clear k1 k2 k3 hF hi hz0 hz1 hz2 n1 n2
  go_enter Tryd.func10, Tryd.ntmps10
  go_wp2_with fail
  refine (copied_W K1.out (wdL_length _) wdL_one N1.out).mono ?_
  rintro e w1 ⟨rfl, q1, b1⟩
  have I1 : RtIn w w1 [.int .i64 z0, .int .i64 z1, .int .i64 z2, .int .i64 z3, .slice a1 st.length c1, .slice a2 fr.length c2, .slice a3 hd.length c3, .int .i64 sta, .int .u64 res, .int .i64 cod] st (some ⟨W.heap.size, 0, none⟩) st.length := ⟨R1.out.below b1 R1.out.lt, owns_mk (rest := []) (by rw [List.append_nil]; exact q1) (by have := HS.out; omega) (by simp) (by simp) (Nat.le_refl _) (by have := N1.out; unfold maxLen; omega), down_call BW.out b1⟩
  have J1 := Lib.hid I1
  obtain ⟨e0, e1, e2, e3, e4, e5, e6, e7, e8, e9⟩ := cells10 I1.row
  clear hW q1 b1 I1 d0 d1 d2 d3 d4 d5 d6 d7 d8 d9
  go_wp2_with fail
  go_loopw [3, 12] (fun r i wr => ∃ (k : Nat) (a : Option Addr) (c : Nat), k ≤ fr.length ∧ i = .int .i64 k ∧ r = .slice a (st ++ selfs (fr.take k)).length c ∧ Hid (RtIn w wr [.int .i64 z0, .int .i64 z1, .int .i64 z2, .int .i64 z3, .slice a1 st.length c1, .slice a2 fr.length c2, .slice a3 hd.length c3, .int .i64 sta, .int .u64 res, .int .i64 cod] (st ++ selfs (fr.take k)) a c)) (fun _ i _ => fr.length - (intOf i).toNat)
  case atStart => exact ⟨0, some ⟨W.heap.size, 0, none⟩, st.length, Nat.zero_le _, rfl, by simp [selfs], by simpa [selfs] using J1⟩
  case round =>
    obtain ⟨k, a, c, hk, rfl, rfl, HR⟩ := hrel
    by_cases hlt : k < fr.length
    · have hfr := Lib.hid (List.getElem?_eq_getElem hlt)
      generalize fr[k] = x at *
      have hk2 := K2.out.below HR.out.hb
      obtain ⟨a', c', e, h⟩ := hk2
      cases e
      rcases h with h | ⟨b, o, rfl, -, hbl, hc⟩
      · exact absurd h (by omega)
      obtain ⟨g0, g1, g2, g3⟩ := frL_get fr k x hfr.out
      have y0 : wr.cell? ⟨b, o + k * 4, none⟩ = some (.int .i64 x.1) := hc _ _ g0
      have y1 : wr.cell? ⟨b, o + k * 4 + 1, none⟩ = some (.int .i64 x.2.1) := by have := hc _ _ g1; rwa [← Nat.add_assoc] at this
      have y2 : wr.cell? ⟨b, o + k * 4 + 2, none⟩ = some (.int .i64 x.2.2.1) := by have := hc _ _ g2; rwa [← Nat.add_assoc] at this
      have y3 : wr.cell? ⟨b, o + k * 4 + 3, none⟩ = some (.int .u64 x.2.2.2) := by have := hc _ _ g3; rwa [← Nat.add_assoc] at this
      have ex := Lib.hid (show selfs (fr.take (k + 1)) = selfs (fr.take k) ++ [x.2.2.2] by rw [List.take_add_one, hfr.out]; simp [selfs])
      generalize hsl : st ++ selfs (fr.take k) = l at *
      have HL := Lib.hid (show l.length ≤ 200000 by rw [← hsl]; have h1 := N1.out; have h2 := N2.out; simp [selfs]; omega)
      have EX := Lib.hid (show st ++ selfs (fr.take (k + 1)) = l ++ [x.2.2.2] by rw [ex.out, ← List.append_assoc, hsl])
      obtain ⟨X1, hX1⟩ : ∃ X, wr.alloc (.cells #[.int .i64 x.1, .int .i64 x.2.1, .int .i64 x.2.2.1, .int .u64 x.2.2.2] 27) = X := ⟨_, rfl⟩
      have BX1 := Lib.hid (show Below wr.heap.size wr X1 by rw [← hX1]; exact down_alloc (Below.refl _ _) _)
      have f3 : X1.cell? ⟨wr.heap.size, 3, none⟩ = some (.int .u64 x.2.2.2) := ((show rowAt X1 wr.heap.size 27 [.int .i64 x.1, .int .i64 x.2.1, .int .i64 x.2.2.1, .int .u64 x.2.2.2] by rw [← hX1]; exact rowAt.made _ _ _).cell 3).trans rfl
      have BX := Lib.hid (show Below wr.heap.size wr (X1.alloc (.cells #[.int .u64 x.2.2.2] 24)) from down_alloc BX1.out _)
      have OW := Lib.hid (owns_below1 HR.out.own BX.out)
      have HROW := Lib.hid (show rowAt (X1.alloc (.cells #[.int .u64 x.2.2.2] 24)) X1.heap.size 24 [.int .u64 x.2.2.2] from rowAt.made _ _ _)
      have BSZ := Lib.hid (show w.heap.size + 1 ≤ (X1.alloc (.cells #[.int .u64 x.2.2.2] 24)).heap.size from Nat.le_trans HR.out.row.lt BX.out.size)
      have hl := HL.out
      have n2 : fr.length ≤ 100000 := N2.out
      clear hc g0 g1 g2 g3 hsl hbl ex
      go_wp2_with (at_builtin; (refine wpList_append_w (by rfl) _ _ _ (by rfl) (w.heap.size + 1) 24 i0 (.int .u64 0) 1 8 under_W HI.out Z0.out Z1.out Z2.out (by rfl) (by decide) (.slice a l.length c) (l.length) (wdL (l)) (by rfl) OW.out (some ⟨X1.heap.size, 0, none⟩) 1 1 [.int .u64 x.2.2.2] (by rfl) (by rfl) (src_rowF HROW.out 1) (one_w _) ?c1 ?c2 ?c3 ?_; (case c1 => simp only [maxLen]; omega); (case c2 => omega); (case c3 => exact BSZ.out); intro v' w2 hown2 hgrow2 hb2; obtain ⟨a2, c2, rfl⟩ := owns_slice hown2; have OW2 := Lib.hid hown2; have HG2 := Lib.hid hgrow2; clear hown2 hgrow2 hb2))
      go_roundw
      case rel =>
        have PX := HR.out.push BX.out OW2.out (by simp) HG2.out
        have PY := Lib.hid PX
        rw [← EX.out] at PY
        have hlt2 : k + 1 ≤ fr.length := hlt
        exact ⟨k + 1, a2, c2, hlt2, by go_num, by rw [EX.out]; simp, PY⟩
      case measure => simp [intOf]; omega
    · obtain rfl : k = fr.length := by omega
      rw [List.take_length] at HR ⊢
      obtain ⟨d0, d1, d2, d3, d4, d5, d6, d7, d8, d9⟩ := cells10 HR.out.row
      have EX := Lib.hid (show rootsP ⟨z0, z1, z2, z3, st, fr, hd, sta, res, cod⟩ = (st ++ selfs fr) ++ [res] from rfl)
      have HL := Lib.hid (show (st ++ selfs fr).length ≤ 200000 by have h1 := N1.out; have h2 := N2.out; simp [selfs]; omega)
      generalize st ++ selfs fr = l at *
      have BX := Lib.hid (show Below wr.heap.size wr (wr.alloc (.cells #[.int .u64 res] 24)) from down_alloc (Below.refl _ _) _)
      have OW := Lib.hid (owns_below1 HR.out.own BX.out)
      have HROW := Lib.hid (show rowAt (wr.alloc (.cells #[.int .u64 res] 24)) wr.heap.size 24 [.int .u64 res] from rowAt.made _ _ _)
      have BSZ := Lib.hid (show w.heap.size + 1 ≤ (wr.alloc (.cells #[.int .u64 res] 24)).heap.size from Nat.le_trans HR.out.row.lt BX.out.size)
      have hl := HL.out
      go_wp2_with (at_builtin; (refine wpList_append_w (by rfl) _ _ _ (by rfl) (w.heap.size + 1) 24 i0 (.int .u64 0) 1 8 under_W HI.out Z0.out Z1.out Z2.out (by rfl) (by decide) (.slice a l.length c) (l.length) (wdL (l)) (by rfl) OW.out (some ⟨wr.heap.size, 0, none⟩) 1 1 [.int .u64 res] (by rfl) (by rfl) (src_rowF HROW.out 1) (one_w _) ?c1 ?c2 ?c3 ?_; (case c1 => simp only [maxLen]; omega); (case c2 => omega); (case c3 => exact BSZ.out); intro v' w2 hown2 hgrow2 hb2; obtain ⟨a2, c2, rfl⟩ := owns_slice hown2; have OW2 := Lib.hid hown2; have HG2 := Lib.hid hgrow2; clear hown2 hgrow2 hb2))
      go_ret
      rw [EX.out]
      exact rt_end (HR.out.push BX.out OW2.out (by simp) HG2.out)
end Go.Proofs.YtjkneniakeffnaaDoor
