/-
  The laws DateFields and DateMonths walked: what package date answers is what the reference answers.
-/
import Derived.Test.YtjjnlihokcddbaaDoorCalAwake
namespace Go.Proofs.YtjjnlihokcddbaaDoor.cal
open Go Go.RowKit Go.Proofs.YtjjnlihokcddbaaDoor.money Go.Proofs.YtjjnlihokcddbaaDoor.txt
set_option linter.unusedVariables false

set_option maxHeartbeats 2000000 in
theorem walk_DateFields (y m d n : Int) (w : World) (he : Env w) : Calls Tryd.prog 3 #[.int .i64 y, .int .i64 m, .int .i64 d, .int .i64 n] w (True64 w) := by
  obtain ⟨⟨a, e⟩, h1⟩ : ∃ r, fromR y m d = r := ⟨_, rfl⟩
  obtain ⟨⟨p, q, r⟩, h2⟩ : ∃ r, toR n = r := ⟨_, rfl⟩
  obtain ⟨b, h3⟩ : ∃ b, leap y = b := ⟨_, rfl⟩
  obtain ⟨x, h4⟩ : ∃ b, dim y m = b := ⟨_, rfl⟩
  have H1 := Lib.hid h1
  have H2 := Lib.hid h2
  have H3 := Lib.hid h3
  have H4 := Lib.hid h4
  clear h1 h2 h3 h4
  go_enter Tryd.func3, Tryd.ntmps3
  go_wp2_with (first
    | (go_at_call 8; refine (FromYMD_is y m d a e _ he H1.out).mono ?_; rintro e' w1 ⟨rfl, hb1⟩; have he1 := he.below hb1)
    | (go_at_call 9; refine (rFromYMD_is y m d a e _ H1.out).mono ?_; rintro e' w' ⟨rfl, rfl⟩)
    | (go_at_call 10; refine (ToYMD_is n p q r _ he1 H2.out).mono ?_; rintro e' w2 ⟨rfl, hb2⟩; have he2 := he1.below hb2)
    | (go_at_call 11; refine (rToYMD_is n p q r _ H2.out).mono ?_; rintro e' w' ⟨rfl, rfl⟩)
    | (go_at_call 12; refine (IsLeap_is y b _ he2 H3.out).mono ?_; rintro e' w3 ⟨rfl, hb3⟩; have he3 := he2.below hb3)
    | (go_at_call 13; refine (rIsLeap_is y b _ H3.out).mono ?_; rintro e' w' ⟨rfl, rfl⟩)
    | (go_at_call 14; refine (DaysInMonth_is y m x _ he3 H4.out).mono ?_; rintro e' w4 ⟨rfl, hb4⟩; have he4 := he3.below hb4)
    | (go_at_call 15; refine (rDaysInMonth_is y m x _ H4.out).mono ?_; rintro e' w' ⟨rfl, rfl⟩)
    | (go_at_call 16; refine (awake_is _ he4).mono ?_; rintro e' w5 ⟨rfl, hb5⟩)
    | fail)
  go_ret
  exact ⟨rfl, tr (tr (tr (tr hb1 hb2) hb3) hb4) hb5⟩

set_option maxHeartbeats 2000000 in
theorem walk_DateMonths (a b n : Int) (w : World) (he : Env w) : Calls Tryd.prog 4 #[.int .i64 a, .int .i64 b, .int .i64 n] w (True64 w) := by
  obtain ⟨⟨x, e⟩, h1⟩ : ∃ r, addR a n = r := ⟨_, rfl⟩
  obtain ⟨k, h2⟩ : ∃ r, wkR a = r := ⟨_, rfl⟩
  obtain ⟨z, h3⟩ : ∃ b', ybR a b = b' := ⟨_, rfl⟩
  have H1 := Lib.hid h1
  have H2 := Lib.hid h2
  have H3 := Lib.hid h3
  clear h1 h2 h3
  go_enter Tryd.func4, Tryd.ntmps4
  go_wp2_with (first
    | (go_at_call 17; refine (AddMonths_is a n x e _ he H1.out).mono ?_; rintro e' w1 ⟨rfl, hb1⟩; have he1 := he.below hb1)
    | (go_at_call 18; refine (rAddMonths_is a n x e _ H1.out).mono ?_; rintro e' w' ⟨rfl, rfl⟩)
    | (go_at_call 19; refine (Weekday_is a k _ he1 H2.out).mono ?_; rintro e' w2 ⟨rfl, hb2⟩; have he2 := he1.below hb2)
    | (go_at_call 20; refine (rWeekday_is a k _ H2.out).mono ?_; rintro e' w' ⟨rfl, rfl⟩)
    | (go_at_call 21; refine (YearsBetween_is a b z _ he2 H3.out).mono ?_; rintro e' w3 ⟨rfl, hb3⟩; have he3 := he2.below hb3)
    | (go_at_call 22; refine (rYearsBetween_is a b z _ H3.out).mono ?_; rintro e' w' ⟨rfl, rfl⟩)
    | (go_at_call 16; refine (awake_is _ he3).mono ?_; rintro e' w4 ⟨rfl, hb4⟩)
    | fail)
  go_ret
  exact ⟨rfl, tr (tr (tr hb1 hb2) hb3) hb4⟩

set_option maxHeartbeats 2000000 in
theorem walk_DateTexts (n : Int) (s : ByteArray) (ws : s.size ≤ maxLen) (w : World) (he : Env w) : Calls Tryd.prog 5 #[.int .i64 n, .string s] w (True64 w) := by
  unfold maxLen at ws
  obtain ⟨⟨a, e⟩, h1⟩ : ∃ r, parseD s.data.toList = r := ⟨_, rfl⟩
  obtain ⟨t, h2⟩ := str_mk (textR n)
  have hrefl : (t.toList == t.toList) = true := by simp
  have H1 := Lib.hid h1
  have H2 := Lib.hid h2
  have HW := Lib.hid ws
  clear h1 h2 ws
  go_enter Tryd.func5, Tryd.ntmps5
  go_wp2_with (first
    | (go_at_call 23; refine (Parse_is s a e _ he H1.out HW.out).mono ?_; rintro e' w1 ⟨rfl, hb1⟩; have he1 := he.below hb1)
    | (go_at_call 24; refine (rParse_is s a e _ H1.out HW.out).mono ?_; rintro e' w' ⟨rfl, nd, rfl⟩; have he2 := he1.below (below_drewN (Below.refl _ _) nd))
    | (go_at_call 25; refine (Format_is n t _ he2 H2.out).mono ?_; rintro e' w2 ⟨rfl, hb2⟩; have he3 := he2.below hb2)
    | (go_at_call 26; refine (rFormat_is n t _ H2.out).mono ?_; rintro e' w3 ⟨rfl, hb3⟩; have he4 := he3.below hb3)
    | (go_at_call 16; refine (awake_is _ he4).mono ?_; rintro e' w4 ⟨rfl, hb4⟩)
    | fail)
  go_ret
  exact ⟨rfl, tr (tr (tr (below_drewN hb1 _) hb2) hb3) hb4⟩
end Go.Proofs.YtjjnlihokcddbaaDoor.cal
