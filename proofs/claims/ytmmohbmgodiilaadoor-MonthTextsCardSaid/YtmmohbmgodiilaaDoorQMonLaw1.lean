/-
  The laws MonthRanges, MonthTexts and MonthOverlap walked.
-/
import Derived.Test.YtmmohbmgodiilaaDoorQMonAwake
import Derived.Deep.RegionHeld3
namespace Go.Proofs.YtmmohbmgodiilaaDoor.mon
open Go Go.RowKit Go.Proofs.YtmmohbmgodiilaaDoor.money Go.Proofs.YtmmohbmgodiilaaDoor.ints
open Go.Proofs.YtmmohbmgodiilaaDoor.txt (str_mk)
set_option linter.unusedVariables false
set_option linter.unusedSimpArgs false

theorem held_al {W : World} {b o : Nat} {v : Value} (ob : Obj) (h : W.cell? ⟨b, o, none⟩ = some v) : (W.alloc ob).cell? ⟨b, o, none⟩ = some v :=
  held ((Below.refl _ _).alloc (Nat.le_refl _) _) h

set_option maxRecDepth 4000 in
set_option maxHeartbeats 8000000 in
theorem walk_MonthRanges (date m a b : Int) (w : World) (he : Env w) : Calls Tryd.prog 3 #[.int .i64 date, .int .i64 m, .agg #[.int .i64 a, .int .i64 b]] w (GivesB w true) := by
  obtain ⟨⟨⟨x, y⟩, c⟩, h1⟩ : ∃ r, rangeR m = r := ⟨_, rfl⟩
  obtain ⟨f, h2⟩ : ∃ r, fdR date = r := ⟨_, rfl⟩
  obtain ⟨g, h3⟩ : ∃ r, daysR m = r := ⟨_, rfl⟩
  obtain ⟨o, h4⟩ : ∃ r, overR m a b = r := ⟨_, rfl⟩
  have H1 := Lib.hid h1
  have H2 := Lib.hid h2
  have H3 := Lib.hid h3
  have H4 := Lib.hid h4
  clear h1 h2 h3 h4
  have BB := Lib.hid (al (Below.refl w.heap.size w) (.cells #[.int .i64 a, .int .i64 b] 23))
  go_enter Tryd.func3, Tryd.ntmps3
  go_wp2_with (first
      | (go_at_call 8; (with_reducible refine (MRange_is m x y c _ ?_ H1.out).mono ?_); (exact he.below BB.out); rintro e w1 ⟨rfl, hb1⟩; have k0 := held hb1 (b := w.heap.size) (o := 0) (v := .int .i64 a) (by simp [go_sem]); have k1 := held hb1 (b := w.heap.size) (o := 1) (v := .int .i64 b) (by simp [go_sem]); have B1 := Lib.hid (tr BB.out hb1))
      | (go_at_call 9; (with_reducible refine (rRange_is m x y c _ H1.out).mono ?_); rintro e w2 ⟨rfl, hb2⟩; have m0 := held hb2 (held_al _ k0); have m1 := held hb2 (held_al _ k1); have m2 := held hb2 (b := w1.heap.size) (o := 0) (v := .int .i64 x) (by simp [go_sem]); have m3 := held hb2 (b := w1.heap.size) (o := 1) (v := .int .i64 y) (by simp [go_sem]); have B2 := Lib.hid (tr (al B1.out _) hb2))
      | fail)
  have n0 := held_al (.cells #[.int .i64 x, .int .i64 y] 23) m0
  have n1 := held_al (.cells #[.int .i64 x, .int .i64 y] 23) m1
  have n2 := held_al (.cells #[.int .i64 x, .int .i64 y] 23) m2
  have n3 := held_al (.cells #[.int .i64 x, .int .i64 y] 23) m3
  have n4 : (w2.alloc (.cells #[.int .i64 x, .int .i64 y] 23)).cell? ⟨w2.heap.size, 0, none⟩ = some (.int .i64 x) := by simp [go_sem]
  have n5 : (w2.alloc (.cells #[.int .i64 x, .int .i64 y] 23)).cell? ⟨w2.heap.size, 1, none⟩ = some (.int .i64 y) := by simp [go_sem]
  have BB := Lib.hid (al B2.out (.cells #[.int .i64 x, .int .i64 y] 23))
  go_region_held3 (fun w' => w'.cell? ⟨w.heap.size, 0, none⟩ = some (.int .i64 a) ∧ w'.cell? ⟨w.heap.size, 1, none⟩ = some (.int .i64 b) ∧ w'.cell? ⟨w1.heap.size, 0, none⟩ = some (.int .i64 x) ∧ w'.cell? ⟨w1.heap.size, 1, none⟩ = some (.int .i64 y) ∧ w'.cell? ⟨w2.heap.size, 0, none⟩ = some (.int .i64 x) ∧ w'.cell? ⟨w2.heap.size, 1, none⟩ = some (.int .i64 y))
    (first | go_keep | (go_split_ands; refine ⟨held hbn ?_, held hbn ?_, held hbn ?_, held hbn ?_, held hbn ?_, held hbn ?_⟩ <;> assumption))
    (first
      | (go_at_call 10; (with_reducible refine (MFd_is date f _ ?_ H2.out).mono ?_); (exact (by first | exact he.below BB.out | exact he.below (below_drewN BB.out _) | exact he.below (below_drewN BB.out 1))); rintro e wn ⟨rfl, hbn⟩; have BB := (by first | exact Lib.hid (tr BB.out hbn) | exact Lib.hid (tr (below_drewN BB.out _) hbn) | exact Lib.hid (tr (below_drewN BB.out 1) hbn) : Hid (Below w.heap.size w wn)))
      | (go_at_call 11; (with_reducible refine (rFd_b date f _ H2.out).mono ?_); rintro e wn ⟨rfl, hbn⟩; have BB := (by first | exact Lib.hid (tr BB.out hbn) | exact Lib.hid (tr (below_drewN BB.out _) hbn) | exact Lib.hid (tr (below_drewN BB.out 1) hbn) : Hid (Below w.heap.size w wn)))
      | (go_at_call 12; (with_reducible refine (MDays_is m g _ ?_ H3.out).mono ?_); (exact (by first | exact he.below BB.out | exact he.below (below_drewN BB.out _) | exact he.below (below_drewN BB.out 1))); rintro e wn ⟨rfl, hbn⟩; have BB := (by first | exact Lib.hid (tr BB.out hbn) | exact Lib.hid (tr (below_drewN BB.out _) hbn) | exact Lib.hid (tr (below_drewN BB.out 1) hbn) : Hid (Below w.heap.size w wn)))
      | (go_at_call 13; (with_reducible refine (rDays_b m g _ H3.out).mono ?_); rintro e wn ⟨rfl, hbn⟩; have BB := (by first | exact Lib.hid (tr BB.out hbn) | exact Lib.hid (tr (below_drewN BB.out _) hbn) | exact Lib.hid (tr (below_drewN BB.out 1) hbn) : Hid (Below w.heap.size w wn)))
      | (go_at_call 14; (with_reducible refine (MOver_is m a b o _ ?_ H4.out).mono ?_); (exact (by first | exact he.below BB.out | exact he.below (below_drewN BB.out _) | exact he.below (below_drewN BB.out 1))); rintro e wn ⟨rfl, hbn⟩; have BB := (by first | exact Lib.hid (tr BB.out hbn) | exact Lib.hid (tr (below_drewN BB.out _) hbn) | exact Lib.hid (tr (below_drewN BB.out 1) hbn) : Hid (Below w.heap.size w wn)))
      | (go_at_call 15; (with_reducible refine (rOver_is m a b o _ H4.out).mono ?_); rintro e wn ⟨rfl, hbn⟩; have BB := (by first | exact Lib.hid (tr BB.out hbn) | exact Lib.hid (tr (below_drewN BB.out _) hbn) | exact Lib.hid (tr (below_drewN BB.out 1) hbn) : Hid (Below w.heap.size w wn)))
      | (go_at_call 16; (with_reducible refine (awake_is _ ?_).mono ?_); (exact (by first | exact he.below BB.out | exact he.below (below_drewN BB.out _) | exact he.below (below_drewN BB.out 1))); rintro e wn ⟨rfl, hbn⟩; have BB := (by first | exact Lib.hid (tr BB.out hbn) | exact Lib.hid (tr (below_drewN BB.out _) hbn) | exact Lib.hid (tr (below_drewN BB.out 1) hbn) : Hid (Below w.heap.size w wn)))
      | fail)
  go_wp2_with fail
  go_ret
  exact ⟨rfl, BB.out⟩

set_option maxRecDepth 4000 in
set_option maxHeartbeats 8000000 in
theorem walk_MonthTexts (m : Int) (s : ByteArray) (w : World) (ws : s.size ≤ maxLen) (he : Env w) : Calls Tryd.prog 5 #[.int .i64 m, .string s] w (GivesB w true) := by
  obtain ⟨⟨a, c⟩, h1⟩ : ∃ r, parseM s.data.toList = r := ⟨_, rfl⟩
  obtain ⟨t, h2⟩ := str_mk (textM m)
  have H1 := Lib.hid h1
  have H2 := Lib.hid h2
  have HS := Lib.hid (show s.size ≤ 9223372036854775807 by unfold maxLen at ws; omega)
  have BB := Lib.hid (Below.refl w.heap.size w)
  clear h1 h2 ws
  go_enter Tryd.func5, Tryd.ntmps5
  go_wp2_with (first
      | (go_at_call 19; (with_reducible refine (MParse_is s a c _ ?_ H1.out HS.out).mono ?_); (exact he.below BB.out); rintro e w1 ⟨rfl, hbn⟩; have BB := Lib.hid (tr BB.out hbn); clear hbn)
      | (go_at_call 20; (with_reducible refine (rPm_is s a c _ H1.out HS.out).mono ?_); rintro e w2 ⟨rfl, hbn⟩; have BB := Lib.hid (tr BB.out hbn); clear hbn)
      | (go_at_call 21; (with_reducible refine (MFormat_is m t _ ?_ H2.out).mono ?_); (exact he.below BB.out); rintro e w3 ⟨rfl, hbn⟩; have BB := Lib.hid (tr BB.out hbn); clear hbn)
      | (go_at_call 22; (with_reducible refine (rTm_is m t _ H2.out).mono ?_); rintro e w4 ⟨rfl, hbn⟩; have BB := Lib.hid (tr BB.out hbn); clear hbn)
      | (go_at_call 16; (with_reducible refine (awake_is _ ?_).mono ?_); (exact he.below BB.out); rintro e wn ⟨rfl, hbn⟩; have BB := Lib.hid (tr BB.out hbn); clear hbn)
      | fail)
  go_ret
  exact ⟨rfl, BB.out⟩

set_option maxRecDepth 4000 in
set_option maxHeartbeats 8000000 in
theorem walk_MonthOverlap (m a b cut : Int) (w : World) (he : Env w) : Calls Tryd.prog 7 #[.int .i64 m, .agg #[.int .i64 a, .int .i64 b], .int .i64 cut] w (GivesB w true) := by
  have BB := Lib.hid (al (Below.refl w.heap.size w) (.cells #[.int .i64 a, .int .i64 b] 23))
  have k0 : (w.alloc (.cells #[.int .i64 a, .int .i64 b] 23)).cell? ⟨w.heap.size, 0, none⟩ = some (.int .i64 a) := by simp [go_sem]
  have k1 : (w.alloc (.cells #[.int .i64 a, .int .i64 b] 23)).cell? ⟨w.heap.size, 1, none⟩ = some (.int .i64 b) := by simp [go_sem]
  have hq : a < 0 ∨ (¬ a < 0 ∧ b < a) ∨ (¬ a < 0 ∧ ¬ b < a ∧ 109573 < b) ∨ (¬ a < 0 ∧ ¬ b < a ∧ ¬ 109573 < b ∧ cut < a) ∨ (¬ a < 0 ∧ ¬ b < a ∧ ¬ 109573 < b ∧ ¬ cut < a ∧ b < cut) ∨ (¬ a < 0 ∧ ¬ b < a ∧ ¬ 109573 < b ∧ ¬ cut < a ∧ ¬ b < cut) := by omega
  rcases hq with z0 | ⟨z0, z1⟩ | ⟨z0, z1, z2⟩ | ⟨z0, z1, z2, z3⟩ | ⟨z0, z1, z2, z3, z4⟩ | ⟨z0, z1, z2, z3, z4⟩
  iterate 5
    rotate_left
  rotate_left
  all_goals first
    | (
      go_enter Tryd.func7, Tryd.ntmps7
      go_wp2_with (first
      | (go_at_call 16; (with_reducible refine (awake_is _ ?_).mono ?_); (exact he.below BB.out); rintro e wn ⟨rfl, hbn⟩; have BB := Lib.hid (tr BB.out hbn); clear hbn)
        | fail)
      go_ret
      exact ⟨rfl, BB.out⟩)
    | skip
  obtain ⟨h0, h1, h2⟩ := over_add (m := m) (a := a) (b := cut) (c := b) (by omega) (by omega) (by omega) (by omega)
  have h3 := (over_bd (m := m) (a := a) (b := cut)).2
  have h4 := (over_bd (m := m) (a := cut) (b := b)).2
  obtain ⟨p, hp⟩ : ∃ r, overR m a cut = r := ⟨_, rfl⟩
  obtain ⟨q, hq⟩ : ∃ r, overR m cut b = r := ⟨_, rfl⟩
  rw [hp, hq] at h0
  rw [hp] at h1 h3
  rw [hq] at h2 h4
  have H0 := Lib.hid h0
  have H1 := Lib.hid hp
  have H2 := Lib.hid hq
  clear h0 hp hq
  go_enter Tryd.func7, Tryd.ntmps7
  go_wp2_with (first
      | (go_at_call 14; (with_reducible refine (MOver_is m a cut p _ ?_ H1.out).mono ?_); (exact he.below BB.out); rintro e w1 ⟨rfl, hbn⟩; replace k0 := held hbn k0; replace k1 := held hbn k1; have BB := Lib.hid (tr BB.out hbn); clear hbn)
      | (go_at_call 14; (with_reducible refine (MOver_is m cut b q _ ?_ H2.out).mono ?_); (exact he.below BB.out); rintro e w2 ⟨rfl, hbn⟩; replace k0 := held hbn k0; replace k1 := held hbn k1; have BB := Lib.hid (tr BB.out hbn); clear hbn)
      | (go_at_call 14; (with_reducible refine (MOver_is m a b (p + q) _ ?_ H0.out).mono ?_); (exact he.below BB.out); rintro e w3 ⟨rfl, hbn⟩; replace k0 := held hbn k0; replace k1 := held hbn k1; have BB := Lib.hid (tr BB.out hbn); clear hbn)
      | (go_at_call 16; (with_reducible refine (awake_is _ ?_).mono ?_); (exact he.below BB.out); rintro e wn ⟨rfl, hbn⟩; have BB := Lib.hid (tr BB.out hbn); clear hbn)
      | fail)
  go_ret
  exact ⟨rfl, BB.out⟩
end Go.Proofs.YtmmohbmgodiilaaDoor.mon
