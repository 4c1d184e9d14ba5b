/-
  The laws WorkdayRange and WorkdayCount walked.
-/
import Derived.Test.YtkecjegjdlmdkaaWdAwake
import Derived.Deep.RegionHeld3
namespace Go.Proofs.Ytkecjegjdlmdkaa.wd
open Go Go.RowKit Go.Proofs.Ytkecjegjdlmdkaa.money Go.Proofs.Ytkecjegjdlmdkaa.ints Go.Proofs.Ytkecjegjdlmdkaa.rng
set_option linter.unusedVariables false
set_option linter.unusedSimpArgs false

set_option maxRecDepth 4000 in
set_option maxHeartbeats 4000000 in
theorem walk_WorkdayRange (wk : Int) (hv : Value) (hs : List Int) (a0 a1 : Int) (w : World) (hi : Ints w hv hs) (he : Env w) : Calls Try.prog 5 #[.agg #[.int .i64 wk, hv], .agg #[.int .i64 a0, .int .i64 a1]] w (GivesB w true) := by
  obtain ⟨A, cp, rfl⟩ := hi.form0
  obtain ⟨n, hn⟩ : ∃ n, hs.length = n := ⟨_, rfl⟩
  have hm := hi.1
  rw [hn] at hi hm ⊢
  have HI := Lib.hid hi
  have BB := Lib.hid (al (al (Below.refl w.heap.size w) (.cells #[.int .i64 wk, .slice A n cp] 24)) (.cells #[.int .i64 a0, .int .i64 a1] 34))
  have k0 : ((w.alloc (.cells #[.int .i64 wk, .slice A n cp] 24)).alloc (.cells #[.int .i64 a0, .int .i64 a1] 34)).cell? ⟨w.heap.size, 0, none⟩ = some (.int .i64 wk) := kept_al _ (by simp [go_sem])
  have k1 : ((w.alloc (.cells #[.int .i64 wk, .slice A n cp] 24)).alloc (.cells #[.int .i64 a0, .int .i64 a1] 34)).cell? ⟨w.heap.size, 1, none⟩ = some (.slice A n cp) := kept_al _ (by simp [go_sem])
  have k2 : ((w.alloc (.cells #[.int .i64 wk, .slice A n cp] 24)).alloc (.cells #[.int .i64 a0, .int .i64 a1] 34)).cell? ⟨w.heap.size + 1, 0, none⟩ = some (.int .i64 a0) := by simp [go_sem]
  have k3 : ((w.alloc (.cells #[.int .i64 wk, .slice A n cp] 24)).alloc (.cells #[.int .i64 a0, .int .i64 a1] 34)).cell? ⟨w.heap.size + 1, 1, none⟩ = some (.int .i64 a1) := by simp [go_sem]
  obtain ⟨c, h1⟩ : ∃ r, cntR wk hs a0 a1 = r := ⟨_, rfl⟩
  have H1 := Lib.hid h1
  clear h1
  by_cases hl : (100 : Int) < n
  · have hl2 : 100 < n := by omega
    clear hi hn
    go_enter Try.func5, Try.ntmps5
    go_wp2_with (first
      | (go_at_call 8; (with_reducible refine (awake_is _ ?_).mono ?_); (exact trivial); rintro e wz ⟨rfl, hbz⟩; have BB := Lib.hid (tr BB.out hbz))
      | fail)
    go_ret
    exact ⟨rfl, BB.out⟩
  have hl2 : ¬ 100 < n := by omega
  clear hi hn
  by_cases hz : 0 ≤ a0 ∧ a0 ≤ 109572 ∧ a0 + 2000 < a1 ∧ a1 ≤ 109573
  · obtain ⟨z0, z1, z2, z3⟩ := hz
    go_enter Try.func5, Try.ntmps5
    go_wp2_with (first
      | (go_at_call 8; (with_reducible refine (awake_is _ ?_).mono ?_); (exact trivial); rintro e wz ⟨rfl, hbz⟩; have BB := Lib.hid (tr BB.out hbz))
      | fail)
    go_ret
    exact ⟨rfl, BB.out⟩
  have hq : a0 < 0 ∨ (0 ≤ a0 ∧ 109572 < a0) ∨ (0 ≤ a0 ∧ a0 ≤ 109572 ∧ ¬ a0 + 2000 < a1) ∨ (0 ≤ a0 ∧ a0 ≤ 109572 ∧ a0 + 2000 < a1 ∧ ¬ a1 ≤ 109573) := by omega
  clear hz
  rcases hq with z0 | ⟨z0, z1⟩ | ⟨z0, z1, z2⟩ | ⟨z0, z1, z2, z3⟩
  all_goals
    go_enter Try.func5, Try.ntmps5
    go_wp2_with (first
      | (go_at_call 8; (with_reducible refine (awake_is _ ?_).mono ?_); (exact trivial); rintro e wz ⟨rfl, hbz⟩; have BB := Lib.hid (tr BB.out hbz))
      | fail)
    go_region_held3 (fun w' => w'.cell? ⟨w.heap.size, 0, none⟩ = some (.int .i64 wk) ∧ w'.cell? ⟨w.heap.size, 1, none⟩ = some (.slice A n cp) ∧ w'.cell? ⟨w.heap.size + 1, 0, none⟩ = some (.int .i64 a0) ∧ w'.cell? ⟨w.heap.size + 1, 1, none⟩ = some (.int .i64 a1))
      (first | go_keep | (go_split_ands; refine ⟨kept hbn ?_, kept hbn ?_, kept hbn ?_, kept hbn ?_⟩ <;> assumption))
      (first
      | (go_at_call 17; (with_reducible refine (WCount_is wk _ hs a0 a1 c _ ?_ ?_ H1.out).mono ?_); (exact trivial); (exact (by first | exact HI.out.below BB.out | exact HI.out.below (below_drewN BB.out _) | exact HI.out.below (below_drewN BB.out 1))); rintro e wn ⟨rfl, hbn⟩; have BB := (by first | exact Lib.hid (tr BB.out hbn) | exact Lib.hid (tr (below_drewN BB.out _) hbn) | exact Lib.hid (tr (below_drewN BB.out 1) hbn) : Hid (Below w.heap.size w wn)))
      | (go_at_call 18; (with_reducible refine (rCount_is wk _ hs a0 a1 c _ ?_ H1.out).mono ?_); (exact (by first | exact HI.out.below BB.out | exact HI.out.below (below_drewN BB.out _) | exact HI.out.below (below_drewN BB.out 1))); rintro e wn ⟨rfl, hbn⟩; have BB := (by first | exact Lib.hid (tr BB.out hbn) | exact Lib.hid (tr (below_drewN BB.out _) hbn) | exact Lib.hid (tr (below_drewN BB.out 1) hbn) : Hid (Below w.heap.size w wn)))
      | (go_at_call 8; (with_reducible refine (awake_is _ ?_).mono ?_); (exact trivial); rintro e wn ⟨rfl, hbn⟩; have BB := (by first | exact Lib.hid (tr BB.out hbn) | exact Lib.hid (tr (below_drewN BB.out _) hbn) | exact Lib.hid (tr (below_drewN BB.out 1) hbn) : Hid (Below w.heap.size w wn)))
      | fail)
    go_wp2_with fail
    go_ret
    exact ⟨rfl, BB.out⟩

set_option maxRecDepth 4000 in
set_option maxHeartbeats 4000000 in
theorem walk_WorkdayCount (wk : Int) (hv : Value) (hs : List Int) (d m : Int) (w : World) (hi : Ints w hv hs) (he : Env w) : Calls Try.prog 6 #[.agg #[.int .i64 wk, hv], .int .i64 d, .int .i64 m] w (GivesB w true) := by
  obtain ⟨A, cp, rfl⟩ := hi.form0
  obtain ⟨n, hn⟩ : ∃ n, hs.length = n := ⟨_, rfl⟩
  have hm := hi.1
  rw [hn] at hi hm ⊢
  have HI := Lib.hid hi
  have BB := Lib.hid (al (Below.refl w.heap.size w) (.cells #[.int .i64 wk, .slice A n cp] 24))
  have k0 : (w.alloc (.cells #[.int .i64 wk, .slice A n cp] 24)).cell? ⟨w.heap.size, 0, none⟩ = some (.int .i64 wk) := by simp [go_sem]
  have k1 : (w.alloc (.cells #[.int .i64 wk, .slice A n cp] 24)).cell? ⟨w.heap.size, 1, none⟩ = some (.slice A n cp) := by simp [go_sem]
  obtain ⟨⟨x, c⟩, h3⟩ : ∃ r, addR wk hs d m = r := ⟨_, rfl⟩
  have H3 := Lib.hid h3
  by_cases hl : (100 : Int) < n
  · have hl2 : 100 < n := by omega
    clear hi hn h3
    go_enter Try.func6, Try.ntmps6
    go_wp2_with (first
      | (go_at_call 8; (with_reducible refine (awake_is _ ?_).mono ?_); (exact trivial); rintro e wz ⟨rfl, hbn⟩; have BB := Lib.hid (tr BB.out hbn))
      | fail)
    go_ret
    exact ⟨rfl, BB.out⟩
  have hl2 : ¬ 100 < n := by omega
  clear hi hn
  by_cases hc : c = 0
  · subst hc
    by_cases hm1 : m < 1
    · clear h3
      go_enter Try.func6, Try.ntmps6
      go_wp2_with (first
      | (go_at_call 15; (with_reducible refine (WAdd_is wk _ hs d m x 0 _ ?_ ?_ H3.out).mono ?_); (exact trivial); (exact HI.out.below BB.out); rintro e w1 ⟨rfl, hbn⟩; have BB := Lib.hid (tr BB.out hbn); replace k0 := kept hbn k0; replace k1 := kept hbn k1; clear hbn)
      | (go_at_call 8; (with_reducible refine (awake_is _ ?_).mono ?_); (exact trivial); rintro e wz ⟨rfl, hbn⟩; have BB := Lib.hid (tr BB.out hbn))
      | fail)
      go_ret
      exact ⟨rfl, BB.out⟩
    · obtain ⟨q0, q1, q2, q3, q4⟩ := addR_ok h3 (by omega)
      have HW := Lib.hid q3
      have HC := Lib.hid q4
      clear h3 q3 q4
      go_enter Try.func6, Try.ntmps6
      go_wp2_with (first
      | (go_at_call 15; (with_reducible refine (WAdd_is wk _ hs d m x 0 _ ?_ ?_ H3.out).mono ?_); (exact trivial); (exact HI.out.below BB.out); rintro e w1 ⟨rfl, hbn⟩; have BB := Lib.hid (tr BB.out hbn); replace k0 := kept hbn k0; replace k1 := kept hbn k1; clear hbn)
      | (go_at_call 13; (with_reducible refine (WIs_is wk _ hs x true _ ?_ ?_ HW.out).mono ?_); (exact trivial); (exact HI.out.below BB.out); rintro e w2 ⟨rfl, hbn⟩; have BB := Lib.hid (tr BB.out hbn); replace k0 := kept hbn k0; replace k1 := kept hbn k1; clear hbn)
      | (go_at_call 17; (with_reducible refine (WCount_is wk _ hs (d + 1) (x + 1) m _ ?_ ?_ HC.out).mono ?_); (exact trivial); (exact HI.out.below BB.out); rintro e w3 ⟨rfl, hbn⟩; have BB := Lib.hid (tr BB.out hbn); replace k0 := kept hbn k0; replace k1 := kept hbn k1; clear hbn)
      | (go_at_call 8; (with_reducible refine (awake_is _ ?_).mono ?_); (exact trivial); rintro e wz ⟨rfl, hbn⟩; have BB := Lib.hid (tr BB.out hbn))
      | fail)
      go_ret
      exact ⟨rfl, BB.out⟩
  · have hc0 : (c != 0) = true := by simpa using hc
    clear h3
    go_enter Try.func6, Try.ntmps6
    go_wp2_with (first
      | (go_at_call 15; (with_reducible refine (WAdd_is wk _ hs d m x c _ ?_ ?_ H3.out).mono ?_); (exact trivial); (exact HI.out.below BB.out); rintro e w1 ⟨rfl, hbn⟩; have BB := Lib.hid (tr BB.out hbn); replace k0 := kept hbn k0; replace k1 := kept hbn k1; clear hbn)
      | (go_at_call 8; (with_reducible refine (awake_is _ ?_).mono ?_); (exact trivial); rintro e wz ⟨rfl, hbn⟩; have BB := Lib.hid (tr BB.out hbn))
      | fail)
    go_ret
    exact ⟨rfl, BB.out⟩
end Go.Proofs.Ytkecjegjdlmdkaa.wd
