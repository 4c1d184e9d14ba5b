/-
  What the small functions of package rate answer: modes, bounds, an answer within bounds. The walks.
-/
import Derived.Test.YtnboimaocmeojaaMineCd
import Derived.Test.YtnboimaocmeojaaMineD
import Derived.Test.YtnboimaocmeojaaRateSteps
import Derived.Test.YtnboimaocmeojaaRateRef3
import Derived.Test.YtnboimaocmeojaaRateRef4
namespace Go.Proofs.Ytnboimaocmeojaa.money
open Go Go.RowKit
set_option linter.unusedVariables false

theorem qMode_is (m : Int) (b : Bool) (w : World) (h : okMode m = b) :
    Calls Try.prog 20 #[.int .i64 m] w fun e w' => e = .returned (.bool b) ∧ w = w' := by
  have H := Lib.hid h
  clear h
  go_enter Try.func20, Try.ntmps20
  go_wp2
  all_goals go_ret
  all_goals refine ⟨ret_bool ?_, rfl⟩
  all_goals rw [← H.out]; unfold okMode
  all_goals (first | (simp; done) | (simp_all; done) | (simp_all; omega))

theorem qBeyond_is (n most : Int) (b : Bool) (w : World) (h0 : 0 ≤ most) (h1 : most ≤ 9223372036854775807) (h : beyond n most = b) :
    Calls Try.prog 21 #[.int .i64 n, .int .i64 most] w fun e w' => e = .returned (.bool b) ∧ w = w' := by
  have H := Lib.hid h
  clear h
  go_enter Try.func21, Try.ntmps21
  go_wp2
  all_goals go_ret
  all_goals refine ⟨ret_bool ?_, rfl⟩
  all_goals rw [← H.out]; unfold beyond
  all_goals (first | exact Bool.or_comm _ _ | (simp_all; done) | (simp_all; omega))

theorem within_is (c most a k : Int) (w : World) (h0 : 0 ≤ most) (h1 : most ≤ 9223372036854775807) (h : (if beyond c most then ((0 : Int), (3 : Int)) else (c, 0)) = (a, k)) :
    Calls Try.prog 23 #[.int .i64 c, .int .i64 most] w fun e w' => e = .returned (.tuple #[.int .i64 a, .int .i64 k]) ∧ w = w' := by
  cases hb : beyond c most
  · rw [hb, if_neg (by decide)] at h
    cases h
    have HB := Lib.hid hb
    clear hb
    go_enter Try.func23, Try.ntmps23
    go_wp2_with (go_at_call 21; refine (qBeyond_is _ _ false _ h0 h1 HB.out).mono ?_; rintro e w' ⟨rfl, rfl⟩)
    go_ret2
    exact ⟨rfl, rfl⟩
  · rw [hb, if_pos rfl] at h
    cases h
    have HB := Lib.hid hb
    clear hb
    go_enter Try.func23, Try.ntmps23
    go_wp2_with (go_at_call 21; refine (qBeyond_is _ _ true _ h0 h1 HB.out).mono ?_; rintro e w' ⟨rfl, rfl⟩)
    go_ret2
    exact ⟨rfl, rfl⟩

end Go.Proofs.Ytnboimaocmeojaa.money
