/-
  The fixed examples of chapter 2 hold: 'awake' of its laws answers true, whatever the world.
-/
import Derived.Test.YtikcnekaefelcaaMoneyMine
namespace Go.Proofs.Ytikcnekaefelcaa.money
open Go Go.RowKit Go.Proofs.Ytikcnekaefelcaa.ints
set_option linter.unusedVariables false

theorem ex1 : divR (-7) 2 0 = (-4, 0) := by decide
theorem ex2 : divR 5 2 5 = (2, 0) := by decide
theorem ex3 : mulR 1000 125000 1000000 4 = (125, 0) := by decide
theorem ex4 : roundR 1250 100 4 = (1300, 0) := by decide
theorem ex5 : allocR 100 [1, 1, 1] = ([34, 33, 33], 0) := by decide
theorem ex6 : sumR [5, -7] = (-2, 0) := by decide

/-- a literal of three integers, of two -/
theorem three_ints (w : World) (a b c : Int) : Ints (w.alloc (.cells #[.int .i64 a, .int .i64 b, .int .i64 c] 3)) (.slice (some ⟨w.heap.size, 0, none⟩) 3 3) [a, b, c] := by
  refine ⟨by simp, .inr ⟨w.heap.size, 0, 3, rfl, by simp, fun i l hi => ?_⟩⟩
  match i, hi with
  | 0, hi => simp at hi; subst hi; simp
  | 1, hi => simp at hi; subst hi; simp
  | 2, hi => simp at hi; subst hi; simp
  | i + 3, hi => simp at hi
theorem two_ints (w : World) (a b : Int) : Ints (w.alloc (.cells #[.int .i64 a, .int .i64 b] 3)) (.slice (some ⟨w.heap.size, 0, none⟩) 2 2) [a, b] := by
  refine ⟨by simp, .inr ⟨w.heap.size, 0, 2, rfl, by simp, fun i l hi => ?_⟩⟩
  match i, hi with
  | 0, hi => simp at hi; subst hi; simp
  | 1, hi => simp at hi; subst hi; simp
  | i + 2, hi => simp at hi

set_option maxHeartbeats 2000000 in
theorem awake_is (w : World) : Calls Try.prog 12 #[] w fun e w' => e = .returned (.bool true) ∧ Below w.heap.size w w' := by
  go_enter Try.func12, Try.ntmps12
  go_wp2_with (first
    | (go_at_call 10; (with_reducible refine (DivRound_is (-7) 2 0 (-4) 0 _ ex1).mono ?_); rintro e w1 ⟨rfl, hb1⟩)
    | (go_at_call 10; (with_reducible refine (DivRound_is 5 2 5 2 0 _ ex2).mono ?_); rintro e w2 ⟨rfl, hb2⟩)
    | (go_at_call 13; refine (MulDiv_is _ _ _ _ _ _ _ ex3).mono ?_; rintro e w3 ⟨rfl, hb3⟩)
    | (go_at_call 15; refine (RoundTo_is _ _ _ _ _ _ ex4).mono ?_; rintro e w4 ⟨rfl, hb4⟩)
    | (go_at_call 17; refine (Allocate_is _ _ _ _ _ _ (three_ints _ 1 1 1) (by decide) ex5).mono ?_; rintro e w5 ⟨⟨v5, rfl, hv5⟩, hb5⟩)
    | (go_at_call 22; refine (Sum_is _ _ _ _ _ (two_ints _ 5 (-7)) ex6).mono ?_; rintro e w6 ⟨rfl, hb6⟩)
    | (go_at_call 19; refine (Ints_is v5 _ _ _ true _ ((hv5.below (al (Below.refl _ _) _)).below (al hb6 _)) (three_ints w6 34 33 33) (by decide)).mono ?_; rintro e w7 ⟨rfl, hb7⟩)
    | fail)
  go_ret
  exact ⟨rfl, tr (al (tr (al (tr (al (tr (tr (tr hb1 hb2) hb3) hb4) _) hb5) _) hb6) _) hb7⟩
end Go.Proofs.Ytikcnekaefelcaa.money
