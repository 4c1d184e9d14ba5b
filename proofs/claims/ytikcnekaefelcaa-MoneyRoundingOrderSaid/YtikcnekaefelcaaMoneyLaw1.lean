/-
  The laws MoneyDivRound, MoneyMulDiv, MoneyRoundTo, MoneyAllocate walked.
-/
import Derived.Test.YtikcnekaefelcaaMoneyAwake
namespace Go.Proofs.Ytikcnekaefelcaa.money
open Go Go.RowKit Go.Proofs.Ytikcnekaefelcaa.ints
set_option linter.unusedVariables false

set_option maxHeartbeats 1000000 in
theorem walk_MoneyDivRound (n d m : Int) (wn : In64 n) (wd : In64 d) (wm : In64 m) (w : World) :
    Calls Try.prog 3 #[.int .i64 n, .int .i64 d, .int .i64 m] w (True64 w) := by
  obtain ⟨a, c, h⟩ : ∃ a c, divR n d m = (a, c) := ⟨_, _, rfl⟩
  have H := Lib.hid h
  clear h wn wd wm
  go_enter Try.func3, Try.ntmps3
  go_wp2_with (first
    | (go_at_call 10; refine (DivRound_is _ _ _ _ _ _ H.out).mono ?_; rintro e w1 ⟨rfl, hb1⟩)
    | (go_at_call 11; refine (rDivRound_is _ _ _ _ _ _ H.out).mono ?_; rintro e w2 ⟨rfl, hb2⟩)
    | (go_at_call 12; refine (awake_is _).mono ?_; rintro e w3 ⟨rfl, hb3⟩)
    | fail)
  go_ret
  exact ⟨rfl, tr (tr hb1 hb2) hb3⟩

set_option maxHeartbeats 1000000 in
theorem walk_MoneyMulDiv (x n d m : Int) (wx : In64 x) (wn : In64 n) (wd : In64 d) (wm : In64 m) (w : World) :
    Calls Try.prog 4 #[.int .i64 x, .int .i64 n, .int .i64 d, .int .i64 m] w (True64 w) := by
  obtain ⟨a, c, h⟩ : ∃ a c, mulR x n d m = (a, c) := ⟨_, _, rfl⟩
  have H := Lib.hid h
  clear h wx wn wd wm
  go_enter Try.func4, Try.ntmps4
  go_wp2_with (first
    | (go_at_call 13; refine (MulDiv_is _ _ _ _ _ _ _ H.out).mono ?_; rintro e w1 ⟨rfl, hb1⟩)
    | (go_at_call 14; refine (rMulDiv_is _ _ _ _ _ _ _ H.out).mono ?_; rintro e w2 ⟨rfl, hb2⟩)
    | (go_at_call 12; refine (awake_is _).mono ?_; rintro e w3 ⟨rfl, hb3⟩)
    | fail)
  go_ret
  exact ⟨rfl, tr (tr hb1 hb2) hb3⟩

set_option maxHeartbeats 1000000 in
theorem walk_MoneyRoundTo (n d m : Int) (wn : In64 n) (wd : In64 d) (wm : In64 m) (w : World) :
    Calls Try.prog 5 #[.int .i64 n, .int .i64 d, .int .i64 m] w (True64 w) := by
  obtain ⟨a, c, h⟩ : ∃ a c, roundR n d m = (a, c) := ⟨_, _, rfl⟩
  have H := Lib.hid h
  by_cases hc : c = 0
  · subst hc
    have H2 := Lib.hid (roundR_again h)
    clear h wn wd wm
    go_enter Try.func5, Try.ntmps5
    go_wp2_with (first
      | (go_at_call 15; (with_reducible refine (RoundTo_is n d m a 0 _ H.out).mono ?_); rintro e w1 ⟨rfl, hb1⟩)
      | (go_at_call 15; (with_reducible refine (RoundTo_is a d m a 0 _ H2.out).mono ?_); rintro e w4 ⟨rfl, hb4⟩)
      | (go_at_call 16; refine (rRoundTo_is _ _ _ _ _ _ H.out).mono ?_; rintro e w2 ⟨rfl, hb2⟩)
      | (go_at_call 12; refine (awake_is _).mono ?_; rintro e w3 ⟨rfl, hb3⟩)
      | fail)
    go_ret
    exact ⟨rfl, tr (tr (tr hb1 hb2) hb4) hb3⟩
  · obtain ⟨a2, c2, h2⟩ : ∃ a2 c2, roundR a d m = (a2, c2) := ⟨_, _, rfl⟩
    have H2 := Lib.hid h2
    have hc0 : (c != 0) = true := by simpa using hc
    have hc1 : (c == 0) = false := by simpa using hc
    clear h h2 wn wd wm
    go_enter Try.func5, Try.ntmps5
    go_wp2_with (first
      | (go_at_call 15; (with_reducible refine (RoundTo_is n d m a c _ H.out).mono ?_); rintro e w1 ⟨rfl, hb1⟩)
      | (go_at_call 15; (with_reducible refine (RoundTo_is a d m a2 c2 _ H2.out).mono ?_); rintro e w4 ⟨rfl, hb4⟩)
      | (go_at_call 16; refine (rRoundTo_is _ _ _ _ _ _ H.out).mono ?_; rintro e w2 ⟨rfl, hb2⟩)
      | (go_at_call 12; refine (awake_is _).mono ?_; rintro e w3 ⟨rfl, hb3⟩)
      | fail)
    go_ret
    exact ⟨rfl, tr (tr (tr hb1 hb2) hb4) hb3⟩

set_option maxHeartbeats 1000000 in
theorem walk_MoneyAllocate (c : Int) (v : Value) (ws : List Int) (wc : In64 c) (w : World) (hv : Ints w v ws) (hz : ∀ z ∈ ws, In64 z) :
    Calls Try.prog 6 #[.int .i64 c, v] w (True64 w) := by
  obtain ⟨A, cp, rfl⟩ := hv.form0
  have HV := Lib.hid hv
  have hm := hv.1
  clear hv wc
  by_cases hl : 80 < ws.length
  · go_enter Try.func6, Try.ntmps6
    go_wp2_with (go_at_call 12; refine (awake_is _).mono ?_; rintro e w3 ⟨rfl, hb3⟩)
    go_ret
    exact ⟨rfl, hb3⟩
  · obtain ⟨l, k, h⟩ : ∃ l k, allocR c ws = (l, k) := ⟨_, _, rfl⟩
    have H := Lib.hid h
    clear h
    go_enter Try.func6, Try.ntmps6
    go_wp2_with (first
      | (go_at_call 17; refine (Allocate_is _ _ _ _ _ _ HV.out (by omega) H.out).mono ?_; rintro e w1 ⟨⟨u1, rfl, hu1⟩, hb1⟩)
      | (go_at_call 18; refine (rAllocate_is _ _ _ _ _ _ (HV.out.below hb1) (by omega) H.out).mono ?_; rintro e w2 ⟨⟨u2, rfl, hu2⟩, hb2⟩)
      | (go_at_call 19; refine (Ints_is _ _ l l true _ (hu1.below hb2) hu2 (by simp)).mono ?_; rintro e w3 ⟨rfl, hb3⟩)
      | (go_at_call 12; refine (awake_is _).mono ?_; rintro e w4 ⟨rfl, hb4⟩)
      | fail)
    go_ret
    exact ⟨rfl, tr (tr (tr hb1 hb2) hb3) hb4⟩
end Go.Proofs.Ytikcnekaefelcaa.money
