/-
  What the small functions of package money answer: modes, bounds, magnitudes, quotients and their rounding. The walks.
-/
import Derived.Test.YtnboimaocmeojaaWalkBase
import Derived.Test.YtnboimaocmeojaaMoneyMath
import Derived.RegionTactic
import Derived.ChangeAlike
namespace Go.Proofs.Ytnboimaocmeojaa.money
open Go Go.RowKit
set_option linter.unusedVariables false

theorem mMode_is (m : Int) (b : Bool) (w : World) (h : okMode m = b) :
    Calls Try.prog 29 #[.int .i64 m] w fun e w' => e = .returned (.bool b) ∧ w = w' := by
  have H := Lib.hid h
  clear h
  go_enter Try.func29, Try.ntmps29
  go_wp2
  all_goals go_ret
  all_goals refine ⟨ret_bool ?_, rfl⟩
  all_goals rw [← H.out]; unfold okMode
  all_goals (first | (simp; done) | (simp_all; done) | (simp_all; omega))

theorem mBeyond_is (n most : Int) (b : Bool) (w : World) (h0 : 0 ≤ most) (h1 : most ≤ 9223372036854775807) (h : beyond n most = b) :
    Calls Try.prog 30 #[.int .i64 n, .int .i64 most] w fun e w' => e = .returned (.bool b) ∧ w = w' := by
  have H := Lib.hid h
  clear h
  go_enter Try.func30, Try.ntmps30
  go_wp2
  all_goals go_ret
  all_goals refine ⟨ret_bool ?_, rfl⟩
  all_goals rw [← H.out]; unfold beyond
  all_goals (first | exact Bool.or_comm _ _ | (simp_all; done) | (simp_all; omega))

theorem mAbs_is (n c : Int) (w : World) (h0 : -9223372036854775807 ≤ n) (h1 : n ≤ 9223372036854775807) (h : (n.natAbs : Int) = c) :
    Calls Try.prog 34 #[.int .i64 n] w fun e w' => e = .returned (.int .u64 c) ∧ w = w' := by
  have H := Lib.hid h
  clear h
  by_cases hn : n < 0
  · have g1 : ¬ -n < n := by omega
    have g2 : n < -n := by omega
    have g3 : n ≤ -n := by omega
    have u1 : IntKind.u64.wrap (-n) = -n := by rw [IntKind.wrap_u64]; omega
    go_enter Try.func34, Try.ntmps34
    go_wp2
    go_ret
    exact ⟨ret_int (by rw [← H.out]; omega), rfl⟩
  · have g1 : -n ≤ n := by omega
    have u1 : IntKind.u64.wrap n = n := by rw [IntKind.wrap_u64]; omega
    go_enter Try.func34, Try.ntmps34
    go_wp2
    go_ret
    exact ⟨ret_int (by rw [← H.out]; omega), rfl⟩
end Go.Proofs.Ytnboimaocmeojaa.money
