/-
  The landed functions of package daterange on one range and on two: Valid, hasDates, Contains, Intersect.
-/
import Derived.Test.YtpdgdcdoaglimaaRngVal
namespace Go.Proofs.Ytpdgdcdoaglimaa.rng
open Go Go.RowKit Go.Proofs.Ytpdgdcdoaglimaa.money
set_option linter.unusedVariables false
set_option linter.unusedSimpArgs false

/-- what the package's variables hold: nothing here -/
def Env (w : World) : Prop := True
theorem Env.below {w w' : World} (h : Env w) (hb : Below w.heap.size w w') : Env w' := trivial

theorem Valid_is (x y : Int) (b : Bool) (w : World) (he : Env w) (h : okR (x, y) = b) : Calls Try.prog 11 #[.agg #[.int .i64 x, .int .i64 y]] w (GivesB w b) := by
  have H := Lib.hid h
  clear h
  by_cases h1 : 0 ≤ x
  · by_cases h2 : x ≤ y
    · by_cases h3 : y ≤ 109573
      all_goals
        go_enter Try.func11, Try.ntmps11
        go_wp2
        go_ret
        refine ⟨ref_bool (by rw [← H.out]; simp [okR]; omega), (Below.refl _ _).alloc (Nat.le_refl _) _⟩
    · go_enter Try.func11, Try.ntmps11
      go_wp2
      go_ret
      refine ⟨ref_bool (by rw [← H.out]; simp [okR]; omega), (Below.refl _ _).alloc (Nat.le_refl _) _⟩
  · go_enter Try.func11, Try.ntmps11
    go_wp2
    go_ret
    refine ⟨ref_bool (by rw [← H.out]; simp [okR]; omega), (Below.refl _ _).alloc (Nat.le_refl _) _⟩

theorem hasDates_is (x y : Int) (b : Bool) (w : World) (h : neR (x, y) = b) : Calls Try.prog 29 #[.agg #[.int .i64 x, .int .i64 y]] w (GivesB w b) := by
  obtain ⟨v, hv⟩ : ∃ v, okR (x, y) = v := ⟨_, rfl⟩
  have h' : (v && decide (x < y)) = b := by rw [← hv, ← h]; rfl
  have HV := Lib.hid hv
  have H := Lib.hid h'
  clear h h' hv
  cases v
  · go_enter Try.func29, Try.ntmps29
    go_wp2_with (go_at_call 11; refine (Valid_is x y false _ trivial HV.out).mono ?_; rintro e w' ⟨rfl, hb⟩; obtain ⟨hc, hf⟩ := bcell hb)
    go_ret
    exact ⟨ref_bool (by rw [← H.out]; rfl), ((Below.refl _ _).alloc (Nat.le_refl _) _).trans (hb.mono (by simp))⟩
  · by_cases h2 : x < y
    all_goals
      go_enter Try.func29, Try.ntmps29
      go_wp2_with (go_at_call 11; refine (Valid_is x y true _ trivial HV.out).mono ?_; rintro e w' ⟨rfl, hb⟩; obtain ⟨hc, hf⟩ := bcell hb)
      go_ret
      exact ⟨ref_bool (by rw [← H.out]; simp [h2]), ((Below.refl _ _).alloc (Nat.le_refl _) _).trans (hb.mono (by simp))⟩

theorem Contains_is (x y d : Int) (b : Bool) (w : World) (he : Env w) (h : hasR (x, y) d = b) : Calls Try.prog 13 #[.agg #[.int .i64 x, .int .i64 y], .int .i64 d] w (GivesB w b) := by
  obtain ⟨v, hv⟩ : ∃ v, okR (x, y) = v := ⟨_, rfl⟩
  have h' : (v && (decide (x ≤ d) && decide (d < y))) = b := by rw [← hv, ← h]; rfl
  have HV := Lib.hid hv
  have H := Lib.hid h'
  clear h h' hv
  cases v
  · go_enter Try.func13, Try.ntmps13
    go_wp2_with (go_at_call 11; refine (Valid_is x y false _ trivial HV.out).mono ?_; rintro e w' ⟨rfl, hb⟩; obtain ⟨hc, hf⟩ := bcell hb)
    go_ret
    exact ⟨ref_bool (by rw [← H.out]; rfl), ((Below.refl _ _).alloc (Nat.le_refl _) _).trans (hb.mono (by simp))⟩
  · by_cases h1 : x ≤ d
    · by_cases h2 : d < y
      all_goals
        go_enter Try.func13, Try.ntmps13
        go_wp2_with (go_at_call 11; refine (Valid_is x y true _ trivial HV.out).mono ?_; rintro e w' ⟨rfl, hb⟩; obtain ⟨hc, hf⟩ := bcell hb)
        go_ret
        exact ⟨ref_bool (by rw [← H.out]; simp; omega), ((Below.refl _ _).alloc (Nat.le_refl _) _).trans (hb.mono (by simp))⟩
    · go_enter Try.func13, Try.ntmps13
      go_wp2_with (go_at_call 11; refine (Valid_is x y true _ trivial HV.out).mono ?_; rintro e w' ⟨rfl, hb⟩; obtain ⟨hc, hf⟩ := bcell hb)
      go_ret
      exact ⟨ref_bool (by rw [← H.out]; simp; omega), ((Below.refl _ _).alloc (Nat.le_refl _) _).trans (hb.mono (by simp))⟩

theorem inter_ne (a b : R) : interR a b = if neR a = true ∧ neR b = true ∧ neR (max a.1 b.1, min a.2 b.2) = true then ((max a.1 b.1, min a.2 b.2), true) else ((0, 0), false) := by
  unfold interR
  have e : (okR a && okR b && decide (max a.1 b.1 < min a.2 b.2)) = true ↔ (neR a = true ∧ neR b = true ∧ neR (max a.1 b.1, min a.2 b.2) = true) := by
    rw [ne_iff, ne_iff, ne_iff]
    simp [okR]
    omega
  by_cases h : (okR a && okR b && decide (max a.1 b.1 < min a.2 b.2)) = true
  · rw [if_pos h, if_pos (e.1 h)]
  · rw [if_neg h, if_neg (fun g => h (e.2 g))]
end Go.Proofs.Ytpdgdcdoaglimaa.rng
