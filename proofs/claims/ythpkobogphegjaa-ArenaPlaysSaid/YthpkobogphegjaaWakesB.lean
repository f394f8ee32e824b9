/-
  The example of layer 2's statements (their own 'wakes'): it returns true, and what was there stays.
  Conditions: none.
-/
import Derived.Test.YthpkobogphegjaaHeld
namespace Go.Proofs.Ythpkobogphegjaa
open Go.ChangeShapes Go.WideShapes Go.ChangeAt Go.RowKit

def k0 : Ar := ⟨[0, 0, 0, 0, 0, 0, 0, 0, 0, 0], []⟩
def k1 : Ar := ⟨[0, 0, 0, 0, 0, 0, 0, 0, 0, 0], [(0, 4)]⟩
def k2 : Ar := ⟨[0, 0, 0, 0, 0, 0, 0, 0, 0, 0], [(0, 4), (4, 4)]⟩
def k3 : Ar := ⟨[0, 0, 0, 0, 0, 0, 0, 7, 0, 0], [(0, 4), (4, 4)]⟩
def k4 : Ar := ⟨[0, 0, 0, 0, 0, 0, 0, 7, 0, 0], [(4, 4)]⟩
def k5 : Ar := ⟨[0, 0, 0, 0, 0, 0, 0, 7, 0, 0], [(0, 2), (4, 4)]⟩

set_option maxRecDepth 100000 in
set_option maxHeartbeats 2000000 in
theorem wakes_any (w : World) :
    Calls Try.prog 9 #[] w fun e w' => e = .returned (.bool true) ∧ Below w.heap.size w w' := by
  go_enter Try.func9, Try.ntmps9
  go_wp2_with fail
  refine (new_h (n := 10) (by decide) (by decide)).mono ?_
  rintro e w1 ⟨p, F1, rfl, h1, s1⟩
  rw [show Ar.new 10 = k0 from rfl] at h1
  go_wp2_with fail
  refine (new_no (n := 0) (by decide)).mono ?_
  rintro e w' ⟨rfl, rfl⟩
  go_wp2_with fail
  refine (cut_h h1 4 (by decide)).mono ?_
  rintro e w2 ⟨rfl, F2, h2, s2⟩
  rw [show k0.cut 4 = k1 from by kernel_rfl] at h2
  rw [show k0.cutAt 4 = 0 from by kernel_rfl, show k0.has 4 = true from by kernel_rfl]
  go_wp2_with fail
  refine (cut_h h2 4 (by decide)).mono ?_
  rintro e w3 ⟨rfl, F3, h3, s3⟩
  rw [show k1.cut 4 = k2 from by kernel_rfl] at h3
  rw [show k1.cutAt 4 = 4 from by kernel_rfl, show k1.has 4 = true from by kernel_rfl]
  go_wp2_with fail
  refine (cut_h h3 4 (by decide)).mono ?_
  rintro e w4 ⟨rfl, F4, h4, s4⟩
  rw [show k2.cut 4 = k2 from by kernel_rfl] at h4
  rw [show k2.cutAt 4 = 0 from by kernel_rfl, show k2.has 4 = false from by kernel_rfl]
  go_wp2_with fail
  refine (set_h h4 4 3 7 (by decide)).mono ?_
  rintro e w5 ⟨rfl, h5, s5⟩
  rw [show k2.set 4 3 7 = k3 from by kernel_rfl] at h5
  rw [show k2.inB 4 3 = true from by kernel_rfl]
  go_wp2_with fail
  refine (set_h h5 4 4 7 (by decide)).mono ?_
  rintro e w6 ⟨rfl, h6, s6⟩
  rw [show k3.set 4 4 7 = k3 from by kernel_rfl] at h6
  rw [show k3.inB 4 4 = false from by kernel_rfl]
  go_wp2_with fail
  refine (get_h h6 4 3).mono ?_
  rintro e w' ⟨rfl, rfl⟩
  rw [show k3.getW 4 3 = 7 from by kernel_rfl, show k3.inB 4 3 = true from by kernel_rfl]
  go_wp2_with fail
  refine (free_h h6 0).mono ?_
  rintro e w7 ⟨rfl, h7, s7⟩
  rw [show k3.free 0 = k4 from by kernel_rfl] at h7
  rw [show k3.there 0 = true from by kernel_rfl]
  go_wp2_with fail
  refine (free_h h7 1).mono ?_
  rintro e w8 ⟨rfl, h8, s8⟩
  rw [show k4.free 1 = k4 from by kernel_rfl] at h8
  rw [show k4.there 1 = false from by kernel_rfl]
  go_wp2_with fail
  refine (cut_h h8 2 (by decide)).mono ?_
  rintro e w9 ⟨rfl, F9, h9, s9⟩
  rw [show k4.cut 2 = k5 from by kernel_rfl] at h9
  rw [show k4.cutAt 2 = 0 from by kernel_rfl, show k4.has 2 = true from by kernel_rfl]
  go_wp2_with fail
  refine (words_h h9 4).mono ?_
  rintro e w10 ⟨v, rfl, o10, b10⟩
  rw [show k5.region 4 = [0, 0, 0, 7] from by kernel_rfl] at o10
  rw [show k5.there 4 = true from by kernel_rfl]
  have h10 := h9.below b10
  have s10 : Step F9 F9 w9 w10 := Step.of_below b10
  go_wp2_with fail
  refine (keepWords_h (xs := [0, 0, 0, 7]) (ys := [0, 0, 0, 7]) (readsAt.of_owns (o10.alloc _)) (readsAt.row (rest := []) (rowAt.made w10 29 _)) (by decide) (b := true) (by decide)).mono ?_
  rintro e w11 ⟨rfl, b11⟩
  have b11' : Below w10.heap.size w10 w11 := ((Below.refl _ w10).alloc (Nat.le_refl _) _).trans (b11.mono (by simp))
  have h11 := h10.below b11'
  have s11 : Step F9 F9 w10 w11 := Step.of_below b11'
  clear b11 b11'
  go_wp2_with fail
  refine (regions_h h11).mono ?_
  rintro e w12 ⟨v2, rfl, o12, b12⟩
  have h12 := h11.below b12
  have s12 : Step F9 F9 w11 w12 := Step.of_below b12
  rw [pairs_pairI] at o12
  rw [show k5.rs.length = 2 from rfl, show pairI k5.rs = [(0, 2), (4, 4)] from rfl] at o12
  go_wp2_with fail
  refine (keepPairs_h (xs := [(0, 2), (4, 4)]) (ys := [(0, 2), (4, 4)]) (readsAt.of_owns (o12.alloc _)) (readsAt.row (rest := []) (rowAt.made w12 55 _)) (by decide) (b := true) (by decide)).mono ?_
  rintro e w13 ⟨rfl, b13⟩
  have b13' : Below w12.heap.size w12 w13 := ((Below.refl _ w12).alloc (Nat.le_refl _) _).trans (b13.mono (by simp))
  have h13 := h12.below b13'
  have s13 : Step F9 F9 w12 w13 := Step.of_below b13'
  clear b13 b13'
  go_wp2_with fail
  refine (len_h h13).mono ?_
  rintro e w' ⟨rfl, rfl⟩
  rw [show (k5.ws.length : Int) = 10 from rfl]
  go_wp2_with fail
  refine (len_nil _).mono ?_
  rintro e w' ⟨rfl, rfl⟩
  go_wp2_with fail
  refine (free_nil _ _).mono ?_
  rintro e w' ⟨rfl, rfl⟩
  go_wp2
  go_ret
  exact ⟨rfl, (s1.chain (s2.chain (s3.chain (s4.chain (s5.chain (s6.chain (s7.chain (s8.chain (s9.chain (s10.chain (s11.chain (s12.chain s13)))))))))))).below⟩

end Go.Proofs.Ythpkobogphegjaa
