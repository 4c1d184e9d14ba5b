/-
  What package date's Weekday answers.
-/
import Derived.Test.YtkecjegjdlmdkaaCalDate
namespace Go.Proofs.Ytkecjegjdlmdkaa.cal
open Go Go.RowKit Go.Proofs.Ytkecjegjdlmdkaa.money
set_option linter.unusedVariables false

theorem mWeekday_is (n c : Int) (w : World) (h : wkR n = c) : Calls Try.prog 29 #[.int .i64 n] w fun e w' => e = .returned (.int .i64 c) ∧ w = w' := by
  unfold wkR at h
  cases hv : okD n
  · rw [hv, if_neg (by decide)] at h
    subst h
    have HV := Lib.hid hv
    clear hv
    go_enter Try.func29, Try.ntmps29
    go_wp2_with (go_at_call 32; refine (mIsDate_is n false _ HV.out).mono ?_; rintro e w' ⟨rfl, rfl⟩)
    go_ret
    exact ⟨rfl, rfl⟩
  · rw [hv, if_pos rfl] at h
    obtain ⟨n0, n1⟩ := (okD_iff n).1 hv
    have HV := Lib.hid hv
    have H := Lib.hid h
    clear hv h
    go_enter Try.func29, Try.ntmps29
    go_wp2_with (go_at_call 32; refine (mIsDate_is n true _ HV.out).mono ?_; rintro e w' ⟨rfl, rfl⟩)
    go_ret
    exact ⟨ret_int (by rw [← H.out]), rfl⟩
end Go.Proofs.Ytkecjegjdlmdkaa.cal
