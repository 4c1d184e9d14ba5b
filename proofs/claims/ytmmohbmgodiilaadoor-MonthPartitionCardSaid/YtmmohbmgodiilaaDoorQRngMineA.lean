/-
  The landed functions of package daterange on one range: hasDates; an intersection in their words.
-/
import Derived.Test.YtmmohbmgodiilaaDoorQRngMineV
namespace Go.Proofs.YtmmohbmgodiilaaDoor.rng
open Go Go.RowKit Go.Proofs.YtmmohbmgodiilaaDoor.money
set_option linter.unusedVariables false
set_option linter.unusedSimpArgs false

theorem hasDates_is (x y : Int) (b : Bool) (w : World) (h : neR (x, y) = b) : Calls Tryd.prog 49 #[.agg #[.int .i64 x, .int .i64 y]] w (GivesB w b) := by
  obtain ⟨v, hv⟩ : ∃ v, okR (x, y) = v := ⟨_, rfl⟩
  have h' : (v && decide (x < y)) = b := by rw [← hv, ← h]; rfl
  have HV := Lib.hid hv
  have H := Lib.hid h'
  clear h h' hv
  cases v
  · go_enter Tryd.func49, Tryd.ntmps49
    go_wp2_with (go_at_call 57; refine (Valid_is x y false _ trivial HV.out).mono ?_; rintro e w' ⟨rfl, hb⟩; obtain ⟨hc, hf⟩ := bcell hb)
    go_ret
    exact ⟨ref_bool (by rw [← H.out]; rfl), ((Below.refl _ _).alloc (Nat.le_refl _) _).trans (hb.mono (by simp))⟩
  · by_cases h2 : x < y
    all_goals
      go_enter Tryd.func49, Tryd.ntmps49
      go_wp2_with (go_at_call 57; refine (Valid_is x y true _ trivial HV.out).mono ?_; rintro e w' ⟨rfl, hb⟩; obtain ⟨hc, hf⟩ := bcell hb)
      go_ret
      exact ⟨ref_bool (by rw [← H.out]; simp [h2]), ((Below.refl _ _).alloc (Nat.le_refl _) _).trans (hb.mono (by simp))⟩

theorem inter_ne (a b : R) : interR a b = if neR a = true ∧ neR b = true ∧ neR (max a.1 b.1, min a.2 b.2) = true then ((max a.1 b.1, min a.2 b.2), true) else ((0, 0), false) := by
  unfold interR
  have e : (okR a && okR b && decide (max a.1 b.1 < min a.2 b.2)) = true ↔ (neR a = true ∧ neR b = true ∧ neR (max a.1 b.1, min a.2 b.2) = true) := by
    rw [ne_iff, ne_iff, ne_iff]
    simp [okR]
    omega
  by_cases h : (okR a && okR b && decide (max a.1 b.1 < min a.2 b.2)) = true
  · rw [if_pos h, if_pos (e.1 h)]
  · rw [if_neg h, if_neg (fun g => h (e.2 g))]
end Go.Proofs.YtmmohbmgodiilaaDoor.rng
