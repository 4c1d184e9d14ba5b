/-
  The law DaterangePairs walked.
-/
import Derived.Test.YtpdgdcdoaglimaaRngAwake
import Derived.Deep.RegionHeld3
namespace Go.Proofs.Ytpdgdcdoaglimaa.rng
open Go Go.RowKit Go.Proofs.Ytpdgdcdoaglimaa.money Go.Proofs.Ytpdgdcdoaglimaa.ints
set_option linter.unusedVariables false
set_option linter.unusedSimpArgs false

set_option maxHeartbeats 8000000 in
theorem walk_DaterangePairs (a0 a1 b0 b1 d : Int) (w : World) (he : Env w) : Calls Try.prog 3 #[.agg #[.int .i64 a0, .int .i64 a1], .agg #[.int .i64 b0, .int .i64 b1], .int .i64 d] w (GivesB w true) := by
  obtain ⟨⟨⟨c0, c1⟩, t⟩, h1⟩ : ∃ r, interR (a0, a1) (b0, b1) = r := ⟨_, rfl⟩
  obtain ⟨p, h2⟩ : ∃ r, okR (a0, a1) = r := ⟨_, rfl⟩
  obtain ⟨q, h3⟩ : ∃ r, hasR (a0, a1) d = r := ⟨_, rfl⟩
  obtain ⟨s, h4⟩ : ∃ r, subR (a0, a1) (b0, b1) = r := ⟨_, rfl⟩
  have H1 := Lib.hid h1
  have H2 := Lib.hid h2
  have H3 := Lib.hid h3
  have H4 := Lib.hid h4
  clear h1 h2 h3 h4
  go_enter Try.func3, Try.ntmps3
  go_wp2_with (first
    | (go_at_call 9; (with_reducible refine (Intersect_is a0 a1 b0 b1 c0 c1 t _ ?_ H1.out).mono ?_); (exact trivial); rintro e w1 ⟨rfl, hb1⟩; have k0 := cell_on hb1 (b := w.heap.size) (o := 0) (v := .int .i64 a0) (by simp [go_sem]); have k1 := cell_on hb1 (b := w.heap.size) (o := 1) (v := .int .i64 a1) (by simp [go_sem]); have k2 := cell_on hb1 (b := w.heap.size + 1) (o := 0) (v := .int .i64 b0) (by simp [go_sem]); have k3 := cell_on hb1 (b := w.heap.size + 1) (o := 1) (v := .int .i64 b1) (by simp [go_sem]); have lz0 := World.block_lt_of_cell? _ _ k0; have lz1 := World.block_lt_of_cell? _ _ k2; simp only at lz0 lz1; have B1 := Lib.hid (tr (al (al (Below.refl _ w) _) _) hb1))
    | (go_at_call 10; (with_reducible refine (rIntersect_is a0 a1 b0 b1 c0 c1 t _ H1.out).mono ?_); rintro e w2 ⟨rfl, hb2⟩; have m0 := cell_on hb2 (cell_al _ k0); have m1 := cell_on hb2 (cell_al _ k1); have m2 := cell_on hb2 (cell_al _ k2); have m3 := cell_on hb2 (cell_al _ k3); have m4 := cell_on hb2 (b := w1.heap.size) (o := 0) (v := .int .i64 c0) (by simp [go_sem]); have m5 := cell_on hb2 (b := w1.heap.size) (o := 1) (v := .int .i64 c1) (by simp [go_sem]); have B2 := Lib.hid (tr (al B1.out _) hb2))
    | fail)
  have n0 := cell_al (.cells #[.int .i64 c0, .int .i64 c1] 23) m0
  have n1 := cell_al (.cells #[.int .i64 c0, .int .i64 c1] 23) m1
  have n2 := cell_al (.cells #[.int .i64 c0, .int .i64 c1] 23) m2
  have n3 := cell_al (.cells #[.int .i64 c0, .int .i64 c1] 23) m3
  have n4 := cell_al (.cells #[.int .i64 c0, .int .i64 c1] 23) m4
  have n5 := cell_al (.cells #[.int .i64 c0, .int .i64 c1] 23) m5
  have n6 : (w2.alloc (.cells #[.int .i64 c0, .int .i64 c1] 23)).cell? ⟨w2.heap.size, 0, none⟩ = some (.int .i64 c0) := by simp [go_sem]
  have n7 : (w2.alloc (.cells #[.int .i64 c0, .int .i64 c1] 23)).cell? ⟨w2.heap.size, 1, none⟩ = some (.int .i64 c1) := by simp [go_sem]
  have BB := Lib.hid (al B2.out (.cells #[.int .i64 c0, .int .i64 c1] 23))
  go_region_held3 (fun w' => w'.cell? ⟨w.heap.size, 0, none⟩ = some (.int .i64 a0) ∧ w'.cell? ⟨w.heap.size, 1, none⟩ = some (.int .i64 a1) ∧ w'.cell? ⟨w.heap.size + 1, 0, none⟩ = some (.int .i64 b0) ∧ w'.cell? ⟨w.heap.size + 1, 1, none⟩ = some (.int .i64 b1) ∧ w'.cell? ⟨w1.heap.size, 0, none⟩ = some (.int .i64 c0) ∧ w'.cell? ⟨w1.heap.size, 1, none⟩ = some (.int .i64 c1) ∧ w'.cell? ⟨w2.heap.size, 0, none⟩ = some (.int .i64 c0) ∧ w'.cell? ⟨w2.heap.size, 1, none⟩ = some (.int .i64 c1))
    (first | go_keep | (go_split_ands; refine ⟨cell_on hbn ?_, cell_on hbn ?_, cell_on hbn ?_, cell_on hbn ?_, cell_on hbn ?_, cell_on hbn ?_, cell_on hbn ?_, cell_on hbn ?_⟩ <;> assumption))
    (first
      | (go_at_call 11; (with_reducible refine (Valid_is a0 a1 p _ ?_ H2.out).mono ?_); (try exact trivial); rintro e wn ⟨rfl, hbn⟩; have BB := (by first | exact Lib.hid (tr BB.out hbn) | exact Lib.hid (tr (below_drewN BB.out _) hbn) | exact Lib.hid (tr (below_drewN BB.out 1) hbn) : Hid (Below w.heap.size w wn)))
      | (go_at_call 12; (with_reducible refine (rValid_is a0 a1 p _ H2.out).mono ?_); (try exact trivial); rintro e wn ⟨rfl, hbn⟩; have BB := (by first | exact Lib.hid (tr BB.out hbn) | exact Lib.hid (tr (below_drewN BB.out _) hbn) | exact Lib.hid (tr (below_drewN BB.out 1) hbn) : Hid (Below w.heap.size w wn)))
      | (go_at_call 13; (with_reducible refine (Contains_is a0 a1 d q _ ?_ H3.out).mono ?_); (try exact trivial); rintro e wn ⟨rfl, hbn⟩; have BB := (by first | exact Lib.hid (tr BB.out hbn) | exact Lib.hid (tr (below_drewN BB.out _) hbn) | exact Lib.hid (tr (below_drewN BB.out 1) hbn) : Hid (Below w.heap.size w wn)))
      | (go_at_call 14; (with_reducible refine (rContains_is a0 a1 d q _ H3.out).mono ?_); (try exact trivial); rintro e wn ⟨rfl, hbn⟩; have BB := (by first | exact Lib.hid (tr BB.out hbn) | exact Lib.hid (tr (below_drewN BB.out _) hbn) | exact Lib.hid (tr (below_drewN BB.out 1) hbn) : Hid (Below w.heap.size w wn)))
      | (go_at_call 16; (with_reducible refine (Subtract_is a0 a1 b0 b1 s _ ?_ H4.out).mono ?_); (try exact trivial); rintro e wn ⟨v5, rfl, hr5, hbn⟩; have BB := (by first | exact Lib.hid (tr BB.out hbn) | exact Lib.hid (tr (below_drewN BB.out _) hbn) | exact Lib.hid (tr (below_drewN BB.out 1) hbn) : Hid (Below w.heap.size w wn)))
      | (go_at_call 17; (with_reducible refine (rSubtract_is a0 a1 b0 b1 s _ H4.out).mono ?_); (try exact trivial); rintro e wn ⟨v6, rfl, hr6, hbn⟩; have BB := (by first | exact Lib.hid (tr BB.out hbn) | exact Lib.hid (tr (below_drewN BB.out _) hbn) | exact Lib.hid (tr (below_drewN BB.out 1) hbn) : Hid (Below w.heap.size w wn)); have hr5' := hr5.below (by first | exact hbn | exact below_drewN hbn _))
      | (go_at_call 15; (with_reducible refine (DateRanges_is _ _ s s true _ ?_ ?_ (by simp)).mono ?_); (exact hr5'); (exact hr6); rintro e wn ⟨rfl, hbn⟩; have BB := (by first | exact Lib.hid (tr BB.out hbn) | exact Lib.hid (tr (below_drewN BB.out _) hbn) | exact Lib.hid (tr (below_drewN BB.out 1) hbn) : Hid (Below w.heap.size w wn)))
      | (go_at_call 18; (with_reducible refine (awake_is _ ?_).mono ?_); (try exact trivial); rintro e wn ⟨rfl, hbn⟩; have BB := (by first | exact Lib.hid (tr BB.out hbn) | exact Lib.hid (tr (below_drewN BB.out _) hbn) | exact Lib.hid (tr (below_drewN BB.out 1) hbn) : Hid (Below w.heap.size w wn)))
      | fail)
  go_wp2_with fail
  go_ret
  exact ⟨rfl, BB.out⟩
end Go.Proofs.Ytpdgdcdoaglimaa.rng
