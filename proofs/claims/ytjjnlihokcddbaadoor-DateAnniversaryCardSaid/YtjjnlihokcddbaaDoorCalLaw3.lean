/-
  The law DateAnniversary walked.
-/
import Derived.Test.YtjjnlihokcddbaaDoorCalLaw1
namespace Go.Proofs.YtjjnlihokcddbaaDoor.cal
open Go Go.RowKit Go.Proofs.YtjjnlihokcddbaaDoor.money Go.Proofs.YtjjnlihokcddbaaDoor.txt
set_option linter.unusedVariables false

set_option maxRecDepth 4000 in
set_option maxHeartbeats 4000000 in
theorem walk_DateAnniversary (a b : Int) (w : World) (he : Env w) : Calls Tryd.prog 7 #[.int .i64 a, .int .i64 b] w (True64 w) := by
  by_cases hin : 0 ≤ a ∧ b ≤ 109572 ∧ a ≤ b
  · obtain ⟨a0, b1, ab⟩ := hin
    obtain ⟨n, x, hy, n0, n1, hx, hxb, hr⟩ := yb_ann a0 b1 ab
    have g1 : ¬ a < 0 := by omega
    have g2 : ¬ 109572 < b := by omega
    have g3 : ¬ b < a := by omega
    have g4 : ¬ n < 0 := by omega
    have g5 : ¬ 300 < n := by omega
    have HY := Lib.hid hy
    have HX := Lib.hid hx
    clear hy hx
    rcases hr with hr | ⟨y, hr, hby⟩
    · have HR := Lib.hid hr
      clear hr
      go_enter Tryd.func7, Tryd.ntmps7
      go_wp2_with (first
        | (go_at_call 21; (with_reducible refine (YearsBetween_is a b n _ he HY.out).mono ?_); rintro e' w1 ⟨rfl, hb1⟩; have he1 := he.below hb1)
        | (go_at_call 17; (with_reducible refine (AddMonths_is a (12 * n) x 0 _ he1 HX.out).mono ?_); rintro e' w2 ⟨rfl, hb2⟩; have he2 := he1.below hb2)
        | (go_at_call 17; (with_reducible refine (AddMonths_is a (12 * n + 12) 0 3 _ he2 HR.out).mono ?_); rintro e' w3 ⟨rfl, hb3⟩; have he3 := he2.below hb3)
        | (go_at_call 16; (with_reducible refine (awake_is _ he3).mono ?_); rintro e' w4 ⟨rfl, hb4⟩)
        | fail)
      go_ret
      exact ⟨rfl, tr (tr (tr hb1 hb2) hb3) hb4⟩
    · have HR := Lib.hid hr
      clear hr
      go_enter Tryd.func7, Tryd.ntmps7
      go_wp2_with (first
        | (go_at_call 21; (with_reducible refine (YearsBetween_is a b n _ he HY.out).mono ?_); rintro e' w1 ⟨rfl, hb1⟩; have he1 := he.below hb1)
        | (go_at_call 17; (with_reducible refine (AddMonths_is a (12 * n) x 0 _ he1 HX.out).mono ?_); rintro e' w2 ⟨rfl, hb2⟩; have he2 := he1.below hb2)
        | (go_at_call 17; (with_reducible refine (AddMonths_is a (12 * n + 12) y 0 _ he2 HR.out).mono ?_); rintro e' w3 ⟨rfl, hb3⟩; have he3 := he2.below hb3)
        | (go_at_call 16; (with_reducible refine (awake_is _ he3).mono ?_); rintro e' w4 ⟨rfl, hb4⟩)
        | fail)
      go_ret
      exact ⟨rfl, tr (tr (tr hb1 hb2) hb3) hb4⟩
  · have hz : ybR a b = 0 := by
      rcases (show (a < 0 ∨ 109572 < b) ∨ b < a by omega) with g | g
      · exact yb_out g
      · exact yb_turned g
    have HZ := Lib.hid hz
    clear hz
    rcases (show a < 0 ∨ (¬ a < 0 ∧ 109572 < b) ∨ (¬ a < 0 ∧ ¬ 109572 < b ∧ b < a) by omega) with g | ⟨g, g2⟩ | ⟨g, g2, g3⟩
    all_goals
      clear hin
      go_enter Tryd.func7, Tryd.ntmps7
      go_wp2_with (first
        | (go_at_call 21; (with_reducible refine (YearsBetween_is a b 0 _ he HZ.out).mono ?_); rintro e' w1 ⟨rfl, hb1⟩; have he1 := he.below hb1)
        | (go_at_call 16; (with_reducible refine (awake_is _ he1).mono ?_); rintro e' w4 ⟨rfl, hb4⟩)
        | fail)
      go_ret
      exact ⟨rfl, tr hb1 hb4⟩
end Go.Proofs.YtjjnlihokcddbaaDoor.cal
