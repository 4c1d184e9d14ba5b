/-
  The examples of chapter 5 hold: 'awake' of its laws answers true, whatever the world.
-/
import Derived.Test.YtpdgdcdoaglimaaRngMine
namespace Go.Proofs.Ytpdgdcdoaglimaa.rng
open Go Go.RowKit Go.Proofs.Ytpdgdcdoaglimaa.money Go.Proofs.Ytpdgdcdoaglimaa.ints
set_option linter.unusedVariables false
set_option linter.unusedSimpArgs false

/-- a literal slice of ranges -/
theorem Rgs.lit {w : World} (l : List R) (k n c : Nat) (cs : Array Value) (hk : k = w.heap.size) (hn : l.length = n) (hc : cs = (cellsR l).toArray) (hl : l.length ≤ 2305843009213693952) :
    Rgs (w.alloc (.cells cs 23)) (.slice (some ⟨k, 0, none⟩) n c) l := by
  subst hk hc hn
  refine ⟨hl, .inr ⟨w.heap.size, 0, c, rfl, by simp, fun i r hi => ?_⟩⟩
  obtain ⟨h1, h2⟩ := cellsR_at hi
  constructor
  · rw [World.cell?_alloc_new]; simpa using h1
  · rw [World.cell?_alloc_new]; simpa using h2
theorem Ints.lit {w : World} (l : List Int) (k n c : Nat) (cs : Array Value) (hk : k = w.heap.size) (hn : l.length = n) (hc : cs = (l.map intV).toArray) (hl : l.length ≤ 4611686018427387904) :
    Ints (w.alloc (.cells cs 3)) (.slice (some ⟨k, 0, none⟩) n c) l := by
  subst hk hc hn
  refine ⟨hl, .inr ⟨w.heap.size, 0, c, rfl, by simp, fun i r hi => ?_⟩⟩
  rw [World.cell?_alloc_new]
  simp [hi, intV]

theorem cell_on {W w' : World} (hb : Below W.heap.size W w') {b o : Nat} {v : Value} (h : W.cell? ⟨b, o, none⟩ = some v) : w'.cell? ⟨b, o, none⟩ = some v := by
  rw [hb.cell (p := ⟨b, o, none⟩) (World.block_lt_of_cell? W _ h)]; exact h
theorem cell_al {W : World} {b o : Nat} {v : Value} (ob : Obj) (h : W.cell? ⟨b, o, none⟩ = some v) : (W.alloc ob).cell? ⟨b, o, none⟩ = some v := by
  rw [World.cell?_alloc_lt W ob _ (World.block_lt_of_cell? W _ h)]; exact h

theorem ex1 : interR (10, 20) (15, 30) = ((15, 20), true) := by decide +kernel
theorem ex2 : unionR [(20, 30), (10, 20), (40, 40)] = [(10, 30)] := by decide +kernel
theorem ex3 : gapsR [(12, 14), (13, 15)] (10, 20) = [(10, 12), (15, 20)] := by decide +kernel
theorem ex4 : bndR [(10, 20), (15, 20), (7, 7)] = [10, 15, 20] := by decide +kernel

set_option maxHeartbeats 4000000 in
theorem awake_is (w : World) (he : Env w) : Calls Try.prog 18 #[] w (GivesB w true) := by
  go_enter Try.func18, Try.ntmps18
  go_wp2_with (first
    | (go_at_call 9; (with_reducible refine (Intersect_is 10 20 15 30 15 20 true _ he ex1).mono ?_); rintro e w1 ⟨rfl, hb1⟩; have B1 := Lib.hid (al hb1 (.cells #[.int .i64 15, .int .i64 20] 23)))
    | (go_at_call 20; (with_reducible refine (Union_is _ [(20, 30), (10, 20), (40, 40)] [(10, 30)] _ ?_ ?_ ?_ ex2).mono ?_); (exact trivial); (exact Rgs.lit _ _ _ _ _ (by simp) rfl rfl (by simp)); (exact (by decide)); rintro e w2 ⟨v2, rfl, hr2, hb2⟩; have k20 := cell_on hb2 (cell_al _ (v := .int .i64 15) (b := w1.heap.size) (o := 0) (by simp [go_sem])); have k21 := cell_on hb2 (cell_al _ (v := .int .i64 20) (b := w1.heap.size) (o := 1) (by simp [go_sem])))
    | (go_at_call 22; (with_reducible refine (Gaps_is _ [(12, 14), (13, 15)] 10 20 [(10, 12), (15, 20)] _ ?_ ?_ ?_ ex3).mono ?_); (exact trivial); (exact Rgs.lit _ _ _ _ _ (by simp) rfl rfl (by simp)); (exact (by decide)); rintro e w3 ⟨v3, rfl, hr3, hb3⟩; have k30 := cell_on hb3 (cell_al _ k20); have k31 := cell_on hb3 (cell_al _ k21))
    | (go_at_call 25; (with_reducible refine (Boundaries_is _ [(10, 20), (15, 20), (7, 7)] [10, 15, 20] _ ?_ ?_ ?_ ex4).mono ?_); (exact trivial); (exact Rgs.lit _ _ _ _ _ (by simp) rfl rfl (by simp)); (exact (by decide)); rintro e w4 ⟨v4, rfl, hr4, hb4⟩; have k40 := cell_on hb4 (cell_al _ k30); have k41 := cell_on hb4 (cell_al _ k31); have q2 := (hr2.below (al (Below.refl _ _) _)).below hb3; have q3 := ((q2.below (al (Below.refl _ _) _)).below hb4); have q4 := ((hr3.below (al (Below.refl _ _) _)).below hb4))
    | (go_at_call 15; (with_reducible refine (DateRanges_is _ _ [(10, 30)] [(10, 30)] true _ ?_ ?_ (by decide)).mono ?_); (exact q3.below (al (Below.refl _ _) _)); (exact Rgs.lit _ _ _ _ _ (by simp) rfl rfl (by simp)); rintro e w5 ⟨rfl, hb5⟩)
    | (go_at_call 15; (with_reducible refine (DateRanges_is _ _ [(10, 12), (15, 20)] [(10, 12), (15, 20)] true _ ?_ ?_ (by decide)).mono ?_); (exact ((q4.below (al (Below.refl _ _) _)).below hb5).below (al (Below.refl _ _) _)); (exact Rgs.lit _ _ _ _ _ (by simp) rfl rfl (by simp)); rintro e w6 ⟨rfl, hb6⟩)
    | (go_at_call 24; (with_reducible refine (Ints_is _ _ [10, 15, 20] [10, 15, 20] true _ ?_ ?_ (by decide)).mono ?_); (exact ((((hr4.below (al (Below.refl _ _) _)).below hb5).below (al (Below.refl _ _) _)).below hb6).below (al (Below.refl _ _) _)); (exact Ints.lit _ _ _ _ _ (by simp) rfl rfl (by simp)); rintro e w7 ⟨rfl, hb7⟩)
    | fail)
  go_ret
  exact ⟨rfl, tr (al (tr (al (tr (al (tr (al (tr (al (tr (al B1.out _) hb2) _) hb3) _) hb4) _) hb5) _) hb6) _) hb7⟩
end Go.Proofs.Ytpdgdcdoaglimaa.rng
