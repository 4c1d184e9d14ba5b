/-
  The landed function Contains of package daterange.
-/
import Derived.Test.YtkecjegjdlmdkaaRngMineV
namespace Go.Proofs.Ytkecjegjdlmdkaa.rng
open Go Go.RowKit Go.Proofs.Ytkecjegjdlmdkaa.money
set_option linter.unusedVariables false
set_option linter.unusedSimpArgs false

theorem Contains_is (x y d : Int) (b : Bool) (w : World) (he : Env w) (h : hasR (x, y) d = b) : Calls Try.prog 26 #[.agg #[.int .i64 x, .int .i64 y], .int .i64 d] w (GivesB w b) := by
  obtain ⟨v, hv⟩ : ∃ v, okR (x, y) = v := ⟨_, rfl⟩
  have h' : (v && (decide (x ≤ d) && decide (d < y))) = b := by rw [← hv, ← h]; rfl
  have HV := Lib.hid hv
  have H := Lib.hid h'
  clear h h' hv
  cases v
  · go_enter Try.func26, Try.ntmps26
    go_wp2_with (go_at_call 23; refine (Valid_is x y false _ trivial HV.out).mono ?_; rintro e w' ⟨rfl, hb⟩; obtain ⟨hc, hf⟩ := bcell hb)
    go_ret
    exact ⟨ref_bool (by rw [← H.out]; rfl), ((Below.refl _ _).alloc (Nat.le_refl _) _).trans (hb.mono (by simp))⟩
  · by_cases h1 : x ≤ d
    · by_cases h2 : d < y
      all_goals
        go_enter Try.func26, Try.ntmps26
        go_wp2_with (go_at_call 23; refine (Valid_is x y true _ trivial HV.out).mono ?_; rintro e w' ⟨rfl, hb⟩; obtain ⟨hc, hf⟩ := bcell hb)
        go_ret
        exact ⟨ref_bool (by rw [← H.out]; simp; omega), ((Below.refl _ _).alloc (Nat.le_refl _) _).trans (hb.mono (by simp))⟩
    · go_enter Try.func26, Try.ntmps26
      go_wp2_with (go_at_call 23; refine (Valid_is x y true _ trivial HV.out).mono ?_; rintro e w' ⟨rfl, hb⟩; obtain ⟨hc, hf⟩ := bcell hb)
      go_ret
      exact ⟨ref_bool (by rw [← H.out]; simp; omega), ((Below.refl _ _).alloc (Nat.le_refl _) _).trans (hb.mono (by simp))⟩
end Go.Proofs.Ytkecjegjdlmdkaa.rng
