/-
  The fixed examples of chapter 3 hold; the laws RateFromRatio, RateMul, RateProrate, RateCompound walked.
-/
import Derived.Test.YtnboimaocmeojaaRateMine
namespace Go.Proofs.Ytnboimaocmeojaa.money
open Go Go.RowKit
set_option linter.unusedVariables false

theorem rex1 : rateR 1 3 4 = (333333, 0) := by decide
theorem rex2 : rateR 1 (-3) 0 = (-333334, 0) := by decide
theorem rex3 : prorateR 10000 10 31 4 = (3226, 0) := by decide
theorem rex4 : compR 10000 100000 2 4 = (12100, 0) := by decide

set_option maxRecDepth 4000 in
set_option maxHeartbeats 1000000 in
theorem rawake_is (w : World) : Calls Try.prog 11 #[] w fun e w' => e = .returned (.bool true) ∧ Below w.heap.size w w' := by
  go_enter Try.func11, Try.ntmps11
  go_wp2_with (first
    | (go_at_call 9; (with_reducible refine (FromRatio_is 1 3 4 333333 0 _ rex1).mono ?_); rintro e w1 ⟨rfl, hb1⟩)
    | (go_at_call 9; (with_reducible refine (FromRatio_is 1 (-3) 0 (-333334) 0 _ rex2).mono ?_); rintro e w2 ⟨rfl, hb2⟩)
    | (go_at_call 16; refine (Prorate_is _ _ _ _ _ _ _ rex3).mono ?_; rintro e w3 ⟨rfl, hb3⟩)
    | (go_at_call 18; refine (Compound_is _ _ _ _ _ _ _ rex4).mono ?_; rintro e w4 ⟨rfl, hb4⟩)
    | fail)
  go_ret
  exact ⟨rfl, tr (tr (tr hb1 hb2) hb3) hb4⟩

set_option maxHeartbeats 1000000 in
theorem walk_RateFromRatio (n d m : Int) (wn : In64 n) (wd : In64 d) (wm : In64 m) (w : World) :
    Calls Try.prog 3 #[.int .i64 n, .int .i64 d, .int .i64 m] w (True64 w) := by
  obtain ⟨a, c, h⟩ : ∃ a c, rateR n d m = (a, c) := ⟨_, _, rfl⟩
  have H := Lib.hid h
  clear h wn wd wm
  go_enter Try.func3, Try.ntmps3
  go_wp2_with (first
    | (go_at_call 9; refine (FromRatio_is _ _ _ _ _ _ H.out).mono ?_; rintro e w1 ⟨rfl, hb1⟩)
    | (go_at_call 10; refine (rFromRatio_is _ _ _ _ _ _ H.out).mono ?_; rintro e w2 ⟨rfl, rfl⟩)
    | (go_at_call 11; refine (rawake_is _).mono ?_; rintro e w3 ⟨rfl, hb3⟩)
    | fail)
  go_ret
  exact ⟨rfl, tr hb1 hb3⟩

set_option maxHeartbeats 1000000 in
theorem walk_RateMul (n d m : Int) (wn : In64 n) (wd : In64 d) (wm : In64 m) (w : World) :
    Calls Try.prog 4 #[.int .i64 n, .int .i64 d, .int .i64 m] w (True64 w) := by
  obtain ⟨a, c, h⟩ : ∃ a c, rmulR n d m = (a, c) := ⟨_, _, rfl⟩
  obtain ⟨a2, c2, h2⟩ : ∃ a2 c2, mulR n d 1000000 m = (a2, c2) := ⟨_, _, rfl⟩
  have H := Lib.hid h
  have H2 := Lib.hid h2
  clear h h2 wn wd wm
  go_enter Try.func4, Try.ntmps4
  go_wp2_with (first
    | (go_at_call 12; refine (RMul_is _ _ _ _ _ _ H.out).mono ?_; rintro e w1 ⟨rfl, hb1⟩)
    | (go_at_call 13; refine (rMul3_is _ _ _ _ _ _ H.out).mono ?_; rintro e w2 ⟨rfl, rfl⟩)
    | (go_at_call 14; refine (RApply_is _ _ _ _ _ _ H2.out).mono ?_; rintro e w4 ⟨rfl, hb4⟩)
    | (go_at_call 15; refine (rApply_is _ _ _ _ _ _ H2.out).mono ?_; rintro e w5 ⟨rfl, hb5⟩)
    | (go_at_call 11; refine (rawake_is _).mono ?_; rintro e w3 ⟨rfl, hb3⟩)
    | fail)
  go_ret
  exact ⟨rfl, tr (tr (tr hb1 hb4) hb5) hb3⟩

set_option maxHeartbeats 1000000 in
theorem walk_RateProrate (x n d m : Int) (wx : In64 x) (wn : In64 n) (wd : In64 d) (wm : In64 m) (w : World) :
    Calls Try.prog 5 #[.int .i64 x, .int .i64 n, .int .i64 d, .int .i64 m] w (True64 w) := by
  obtain ⟨a, c, h⟩ : ∃ a c, prorateR x n d m = (a, c) := ⟨_, _, rfl⟩
  have H := Lib.hid h
  clear h wx wn wd wm
  go_enter Try.func5, Try.ntmps5
  go_wp2_with (first
    | (go_at_call 16; refine (Prorate_is _ _ _ _ _ _ _ H.out).mono ?_; rintro e w1 ⟨rfl, hb1⟩)
    | (go_at_call 17; refine (rProrate_is _ _ _ _ _ _ _ H.out).mono ?_; rintro e w2 ⟨rfl, hb2⟩)
    | (go_at_call 11; refine (rawake_is _).mono ?_; rintro e w3 ⟨rfl, hb3⟩)
    | fail)
  go_ret
  exact ⟨rfl, tr (tr hb1 hb2) hb3⟩

set_option maxHeartbeats 1000000 in
theorem walk_RateCompound (x n d m : Int) (wx : In64 x) (wn : In64 n) (wd : In64 d) (wm : In64 m) (w : World) :
    Calls Try.prog 6 #[.int .i64 x, .int .i64 n, .int .i64 d, .int .i64 m] w (True64 w) := by
  obtain ⟨a, c, h⟩ : ∃ a c, compR x n d m = (a, c) := ⟨_, _, rfl⟩
  have H := Lib.hid h
  clear h wx wn wd wm
  go_enter Try.func6, Try.ntmps6
  go_wp2_with (first
    | (go_at_call 18; refine (Compound_is _ _ _ _ _ _ _ H.out).mono ?_; rintro e w1 ⟨rfl, hb1⟩)
    | (go_at_call 19; refine (rCompound_is _ _ _ _ _ _ _ H.out).mono ?_; rintro e w2 ⟨rfl, hb2⟩)
    | (go_at_call 11; refine (rawake_is _).mono ?_; rintro e w3 ⟨rfl, hb3⟩)
    | fail)
  go_ret
  exact ⟨rfl, tr (tr hb1 hb2) hb3⟩
end Go.Proofs.Ytnboimaocmeojaa.money
