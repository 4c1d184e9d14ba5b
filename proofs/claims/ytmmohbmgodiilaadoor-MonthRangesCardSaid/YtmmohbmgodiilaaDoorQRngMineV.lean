/-
  The landed function Valid of package daterange.
-/
import Derived.Test.YtmmohbmgodiilaaDoorQRngVal
namespace Go.Proofs.YtmmohbmgodiilaaDoor.rng
open Go Go.RowKit Go.Proofs.YtmmohbmgodiilaaDoor.money
set_option linter.unusedVariables false
set_option linter.unusedSimpArgs false

/-- what the package's variables hold: nothing here -/
def Env (w : World) : Prop := True
theorem Env.below {w w' : World} (h : Env w) (hb : Below w.heap.size w w') : Env w' := trivial

theorem Valid_is (x y : Int) (b : Bool) (w : World) (he : Env w) (h : okR (x, y) = b) : Calls Tryd.prog 57 #[.agg #[.int .i64 x, .int .i64 y]] w (GivesB w b) := by
  have H := Lib.hid h
  clear h
  by_cases h1 : 0 ≤ x
  · by_cases h2 : x ≤ y
    · by_cases h3 : y ≤ 109573
      all_goals
        go_enter Tryd.func57, Tryd.ntmps57
        go_wp2
        go_ret
        refine ⟨ref_bool (by rw [← H.out]; simp [okR]; omega), (Below.refl _ _).alloc (Nat.le_refl _) _⟩
    · go_enter Tryd.func57, Tryd.ntmps57
      go_wp2
      go_ret
      refine ⟨ref_bool (by rw [← H.out]; simp [okR]; omega), (Below.refl _ _).alloc (Nat.le_refl _) _⟩
  · go_enter Tryd.func57, Tryd.ntmps57
    go_wp2
    go_ret
    refine ⟨ref_bool (by rw [← H.out]; simp [okR]; omega), (Below.refl _ _).alloc (Nat.le_refl _) _⟩
end Go.Proofs.YtmmohbmgodiilaaDoor.rng
