/-
  The law DaterangeLists walked.
-/
import Derived.Test.YtpdgdcdoaglimaaRngAwake
import Derived.Deep.RegionHeld3
namespace Go.Proofs.Ytpdgdcdoaglimaa.rng
open Go Go.RowKit Go.Proofs.Ytpdgdcdoaglimaa.money Go.Proofs.Ytpdgdcdoaglimaa.ints
set_option linter.unusedVariables false
set_option linter.unusedSimpArgs false

theorem few_is (vl : Value) (l : List R) (b : Bool) (w : World) (hl : Rgs w vl l) (h : decide (l.length ≤ 100) = b) : Calls Try.prog 19 #[vl] w fun e w' => e = .returned (.bool b) ∧ w = w' := by
  obtain ⟨A, c, rfl⟩ := hl.form0
  have H := Lib.hid h
  by_cases g : l.length ≤ 100
  all_goals
    clear h hl
    go_enter Try.func19, Try.ntmps19
    go_wp2
    go_ret
    exact ⟨ref_bool (by rw [← H.out]; simp; try omega), rfl⟩

set_option maxHeartbeats 8000000 in
theorem walk_DaterangeLists (vl : Value) (l : List R) (a0 a1 : Int) (w : World) (hl : Rgs w vl l) (he : Env w) : Calls Try.prog 4 #[vl, .agg #[.int .i64 a0, .int .i64 a1]] w (GivesB w true) := by
  obtain ⟨u, h1⟩ : ∃ r, unionR l = r := ⟨_, rfl⟩
  obtain ⟨g, h2⟩ : ∃ r, gapsR l (a0, a1) = r := ⟨_, rfl⟩
  obtain ⟨b, h3⟩ : ∃ r, bndR l = r := ⟨_, rfl⟩
  have H1 := Lib.hid h1
  have H2 := Lib.hid h2
  have H3 := Lib.hid h3
  have HL := Lib.hid hl
  clear h1 h2 h3
  cases hf : decide (l.length ≤ 100)
  · have HF := Lib.hid hf
    clear hf hl
    go_enter Try.func4, Try.ntmps4
    go_wp2_with (first
      | (go_at_call 19; (with_reducible refine (few_is _ l false _ ?_ HF.out).mono ?_); (exact HL.out.below (al (Below.refl _ _) _)); rintro e w1 ⟨rfl, rfl⟩)
      | (go_at_call 18; (with_reducible refine (awake_is _ ?_).mono ?_); (exact trivial); rintro e w2 ⟨rfl, hb2⟩)
      | fail)
    go_ret
    exact ⟨rfl, tr (al (Below.refl _ _) _) hb2⟩
  · have HF := Lib.hid hf
    have HN := Lib.hid (of_decide_eq_true hf)
    have HN2 := Lib.hid (show l.length ≤ 110000 by have := of_decide_eq_true hf; omega)
    clear hf hl
    go_enter Try.func4, Try.ntmps4
    go_wp2_with (first
      | (go_at_call 19; (with_reducible refine (few_is _ l true _ ?_ HF.out).mono ?_); (exact HL.out.below (al (Below.refl _ _) _)); rintro e w1 ⟨rfl, rfl⟩)
      | fail)
    have BB := Lib.hid (al (Below.refl w.heap.size w) (.cells #[.int .i64 a0, .int .i64 a1] 23))
    have n0 : (w.alloc (.cells #[.int .i64 a0, .int .i64 a1] 23)).cell? ⟨w.heap.size, 0, none⟩ = some (.int .i64 a0) := by simp [go_sem]
    have n1 : (w.alloc (.cells #[.int .i64 a0, .int .i64 a1] 23)).cell? ⟨w.heap.size, 1, none⟩ = some (.int .i64 a1) := by simp [go_sem]
    go_region_held3 (fun w' => w'.cell? ⟨w.heap.size, 0, none⟩ = some (.int .i64 a0) ∧ w'.cell? ⟨w.heap.size, 1, none⟩ = some (.int .i64 a1))
      (first | go_keep | (go_split_ands; refine ⟨cell_on hbn ?_, cell_on hbn ?_⟩ <;> assumption))
      (first
      | (go_at_call 20; (with_reducible refine (Union_is _ l u _ ?_ ?_ HN.out H1.out).mono ?_); (exact trivial); (exact (by first | exact HL.out.below BB.out | exact HL.out.below (below_drewN BB.out _))); rintro e wn ⟨v5, rfl, hr5, hbn⟩; have BB := (by first | exact Lib.hid (tr BB.out hbn) | exact Lib.hid (tr (below_drewN BB.out _) hbn) | exact Lib.hid (tr (below_drewN BB.out 1) hbn) : Hid (Below w.heap.size w wn)))
      | (go_at_call 21; (with_reducible refine (rUnion_is _ l u _ ?_ HN2.out H1.out).mono ?_); (exact (by first | exact HL.out.below BB.out | exact HL.out.below (below_drewN BB.out _))); rintro e wn ⟨v6, rfl, hr6, hbn⟩; have BB := (by first | exact Lib.hid (tr BB.out hbn) | exact Lib.hid (tr (below_drewN BB.out _) hbn) | exact Lib.hid (tr (below_drewN BB.out 1) hbn) : Hid (Below w.heap.size w wn)); have hr5' := hr5.below (by first | exact hbn | exact below_drewN hbn _))
      | (go_at_call 15; (with_reducible refine (DateRanges_is _ _ u u true _ ?_ ?_ (by simp)).mono ?_); (exact hr5'); (exact hr6); rintro e wn ⟨rfl, hbn⟩; have BB := (by first | exact Lib.hid (tr BB.out hbn) | exact Lib.hid (tr (below_drewN BB.out _) hbn) | exact Lib.hid (tr (below_drewN BB.out 1) hbn) : Hid (Below w.heap.size w wn)))
      | (go_at_call 22; (with_reducible refine (Gaps_is _ l a0 a1 g _ ?_ ?_ HN.out H2.out).mono ?_); (exact trivial); (exact (by first | exact HL.out.below BB.out | exact HL.out.below (below_drewN BB.out _))); rintro e wn ⟨v7, rfl, hr7, hbn⟩; have BB := (by first | exact Lib.hid (tr BB.out hbn) | exact Lib.hid (tr (below_drewN BB.out _) hbn) | exact Lib.hid (tr (below_drewN BB.out 1) hbn) : Hid (Below w.heap.size w wn)))
      | (go_at_call 23; (with_reducible refine (rGaps_is _ l a0 a1 g _ ?_ HN2.out H2.out).mono ?_); (exact (by first | exact HL.out.below BB.out | exact HL.out.below (below_drewN BB.out _))); rintro e wn ⟨v8, rfl, hr8, hbn⟩; have BB := (by first | exact Lib.hid (tr BB.out hbn) | exact Lib.hid (tr (below_drewN BB.out _) hbn) | exact Lib.hid (tr (below_drewN BB.out 1) hbn) : Hid (Below w.heap.size w wn)); have hr7' := hr7.below (by first | exact hbn | exact below_drewN hbn _))
      | (go_at_call 15; (with_reducible refine (DateRanges_is _ _ g g true _ ?_ ?_ (by simp)).mono ?_); (exact hr7'); (exact hr8); rintro e wn ⟨rfl, hbn⟩; have BB := (by first | exact Lib.hid (tr BB.out hbn) | exact Lib.hid (tr (below_drewN BB.out _) hbn) | exact Lib.hid (tr (below_drewN BB.out 1) hbn) : Hid (Below w.heap.size w wn)))
      | (go_at_call 25; (with_reducible refine (Boundaries_is _ l b _ ?_ ?_ HN.out H3.out).mono ?_); (exact trivial); (exact (by first | exact HL.out.below BB.out | exact HL.out.below (below_drewN BB.out _))); rintro e wn ⟨v9, rfl, hr9, hbn⟩; have BB := (by first | exact Lib.hid (tr BB.out hbn) | exact Lib.hid (tr (below_drewN BB.out _) hbn) | exact Lib.hid (tr (below_drewN BB.out 1) hbn) : Hid (Below w.heap.size w wn)))
      | (go_at_call 26; (with_reducible refine (rBoundaries_is _ l b _ ?_ HN2.out H3.out).mono ?_); (exact (by first | exact HL.out.below BB.out | exact HL.out.below (below_drewN BB.out _))); rintro e wn ⟨v10, rfl, hr10, hbn⟩; have BB := (by first | exact Lib.hid (tr BB.out hbn) | exact Lib.hid (tr (below_drewN BB.out _) hbn) | exact Lib.hid (tr (below_drewN BB.out 1) hbn) : Hid (Below w.heap.size w wn)); have hr9' := hr9.below (by first | exact hbn | exact below_drewN hbn _))
      | (go_at_call 24; (with_reducible refine (Ints_is _ _ b b true _ ?_ ?_ (by simp)).mono ?_); (exact hr9'); (exact hr10); rintro e wn ⟨rfl, hbn⟩; have BB := (by first | exact Lib.hid (tr BB.out hbn) | exact Lib.hid (tr (below_drewN BB.out _) hbn) | exact Lib.hid (tr (below_drewN BB.out 1) hbn) : Hid (Below w.heap.size w wn)))
      | (go_at_call 18; (with_reducible refine (awake_is _ ?_).mono ?_); (exact trivial); rintro e wn ⟨rfl, hbn⟩; have BB := (by first | exact Lib.hid (tr BB.out hbn) | exact Lib.hid (tr (below_drewN BB.out _) hbn) | exact Lib.hid (tr (below_drewN BB.out 1) hbn) : Hid (Below w.heap.size w wn)))
      | fail)
    go_wp2_with fail
    go_ret
    exact ⟨rfl, BB.out⟩
end Go.Proofs.Ytpdgdcdoaglimaa.rng
