/-
  The laws WorkdayNext and WorkdayAdd walked.
-/
import Derived.Test.YtkecjegjdlmdkaaWdAwake
import Derived.Deep.RegionHeld3
namespace Go.Proofs.Ytkecjegjdlmdkaa.wd
open Go Go.RowKit Go.Proofs.Ytkecjegjdlmdkaa.money Go.Proofs.Ytkecjegjdlmdkaa.ints Go.Proofs.Ytkecjegjdlmdkaa.rng
set_option linter.unusedVariables false
set_option linter.unusedSimpArgs false

set_option maxRecDepth 4000 in
set_option maxHeartbeats 4000000 in
theorem walk_WorkdayNext (wk : Int) (hv : Value) (hs : List Int) (d : Int) (w : World) (hi : Ints w hv hs) (he : Env w) : Calls Try.prog 3 #[.agg #[.int .i64 wk, hv], .int .i64 d] w (GivesB w true) := by
  obtain ⟨A, cp, rfl⟩ := hi.form0
  obtain ⟨n, hn⟩ : ∃ n, hs.length = n := ⟨_, rfl⟩
  have hm := hi.1
  rw [hn] at hi hm ⊢
  have HI := Lib.hid hi
  have BB := Lib.hid (al (Below.refl w.heap.size w) (.cells #[.int .i64 wk, .slice A n cp] 24))
  have k0 : (w.alloc (.cells #[.int .i64 wk, .slice A n cp] 24)).cell? ⟨w.heap.size, 0, none⟩ = some (.int .i64 wk) := by simp [go_sem]
  have k1 : (w.alloc (.cells #[.int .i64 wk, .slice A n cp] 24)).cell? ⟨w.heap.size, 1, none⟩ = some (.slice A n cp) := by simp [go_sem]
  obtain ⟨a, h1⟩ : ∃ r, calR wk hs = r := ⟨_, rfl⟩
  obtain ⟨q, h2⟩ : ∃ r, wdR wk hs d = r := ⟨_, rfl⟩
  obtain ⟨⟨x, c⟩, h3⟩ : ∃ r, nextR wk hs d = r := ⟨_, rfl⟩
  have H1 := Lib.hid h1
  have H2 := Lib.hid h2
  have H3 := Lib.hid h3
  clear h1 h2 h3
  by_cases hl : (100 : Int) < n
  · have hl2 : 100 < n := by omega
    clear hi hn
    go_enter Try.func3, Try.ntmps3
    go_wp2_with (first
      | (go_at_call 8; (with_reducible refine (awake_is _ ?_).mono ?_); (exact trivial); rintro e wz ⟨rfl, hbn⟩; have BB := Lib.hid (tr BB.out hbn))
      | fail)
    go_ret
    exact ⟨rfl, BB.out⟩
  have hl2 : ¬ 100 < n := by omega
  clear hi hn
  go_enter Try.func3, Try.ntmps3
  go_wp2_with (first
      | (go_at_call 9; (with_reducible refine (WNext_is wk _ hs d x c _ ?_ ?_ H3.out).mono ?_); (exact trivial); (exact HI.out.below BB.out); rintro e w1 ⟨rfl, hbn⟩; have BB := Lib.hid (tr BB.out hbn); replace k0 := kept hbn k0; replace k1 := kept hbn k1; clear hbn)
      | (go_at_call 10; (with_reducible refine (rNext_is wk _ hs d x c _ ?_ H3.out).mono ?_); (exact HI.out.below BB.out); rintro e w2 ⟨rfl, hbn⟩; have BB := Lib.hid (tr BB.out hbn); replace k0 := kept hbn k0; replace k1 := kept hbn k1; clear hbn)
      | fail)
  go_region_held3 (fun w' => w'.cell? ⟨w.heap.size, 0, none⟩ = some (.int .i64 wk) ∧ w'.cell? ⟨w.heap.size, 1, none⟩ = some (.slice A n cp))
      (first | go_keep | (go_split_ands; refine ⟨kept hbn ?_, kept hbn ?_⟩ <;> assumption))
      (first
      | (go_at_call 11; (with_reducible refine (WValid_is wk _ hs a _ ?_ ?_ H1.out).mono ?_); (exact trivial); (exact (by first | exact HI.out.below BB.out | exact HI.out.below (below_drewN BB.out _) | exact HI.out.below (below_drewN BB.out 1))); rintro e wn ⟨rfl, hbn⟩; have BB := (by first | exact Lib.hid (tr BB.out hbn) | exact Lib.hid (tr (below_drewN BB.out _) hbn) | exact Lib.hid (tr (below_drewN BB.out 1) hbn) : Hid (Below w.heap.size w wn)))
      | (go_at_call 12; (with_reducible refine (rCal_is wk _ hs a _ ?_ H1.out).mono ?_); (exact (by first | exact HI.out.below BB.out | exact HI.out.below (below_drewN BB.out _) | exact HI.out.below (below_drewN BB.out 1))); rintro e wn ⟨rfl, hbn⟩; have BB := (by first | exact Lib.hid (tr BB.out hbn) | exact Lib.hid (tr (below_drewN BB.out _) hbn) | exact Lib.hid (tr (below_drewN BB.out 1) hbn) : Hid (Below w.heap.size w wn)))
      | (go_at_call 13; (with_reducible refine (WIs_is wk _ hs d q _ ?_ ?_ H2.out).mono ?_); (exact trivial); (exact (by first | exact HI.out.below BB.out | exact HI.out.below (below_drewN BB.out _) | exact HI.out.below (below_drewN BB.out 1))); rintro e wn ⟨rfl, hbn⟩; have BB := (by first | exact Lib.hid (tr BB.out hbn) | exact Lib.hid (tr (below_drewN BB.out _) hbn) | exact Lib.hid (tr (below_drewN BB.out 1) hbn) : Hid (Below w.heap.size w wn)))
      | (go_at_call 14; (with_reducible refine (rWd_is wk _ hs d q _ ?_ H2.out).mono ?_); (exact (by first | exact HI.out.below BB.out | exact HI.out.below (below_drewN BB.out _) | exact HI.out.below (below_drewN BB.out 1))); rintro e wn ⟨rfl, hbn⟩; have BB := (by first | exact Lib.hid (tr BB.out hbn) | exact Lib.hid (tr (below_drewN BB.out _) hbn) | exact Lib.hid (tr (below_drewN BB.out 1) hbn) : Hid (Below w.heap.size w wn)))
      | (go_at_call 8; (with_reducible refine (awake_is _ ?_).mono ?_); (exact trivial); rintro e wn ⟨rfl, hbn⟩; have BB := (by first | exact Lib.hid (tr BB.out hbn) | exact Lib.hid (tr (below_drewN BB.out _) hbn) | exact Lib.hid (tr (below_drewN BB.out 1) hbn) : Hid (Below w.heap.size w wn)))
      | fail)
  go_wp2_with fail
  go_ret
  exact ⟨rfl, BB.out⟩

set_option maxRecDepth 4000 in
set_option maxHeartbeats 4000000 in
theorem walk_WorkdayAdd (wk : Int) (hv : Value) (hs : List Int) (d m : Int) (w : World) (hi : Ints w hv hs) (he : Env w) : Calls Try.prog 4 #[.agg #[.int .i64 wk, hv], .int .i64 d, .int .i64 m] w (GivesB w true) := by
  obtain ⟨A, cp, rfl⟩ := hi.form0
  obtain ⟨n, hn⟩ : ∃ n, hs.length = n := ⟨_, rfl⟩
  have hm := hi.1
  rw [hn] at hi hm ⊢
  have HI := Lib.hid hi
  have BB := Lib.hid (al (Below.refl w.heap.size w) (.cells #[.int .i64 wk, .slice A n cp] 24))
  have k0 : (w.alloc (.cells #[.int .i64 wk, .slice A n cp] 24)).cell? ⟨w.heap.size, 0, none⟩ = some (.int .i64 wk) := by simp [go_sem]
  have k1 : (w.alloc (.cells #[.int .i64 wk, .slice A n cp] 24)).cell? ⟨w.heap.size, 1, none⟩ = some (.slice A n cp) := by simp [go_sem]
  obtain ⟨⟨x, c⟩, h3⟩ : ∃ r, addR wk hs d m = r := ⟨_, rfl⟩
  have H3 := Lib.hid h3
  clear h3
  by_cases hl : (100 : Int) < n
  · have hl2 : 100 < n := by omega
    clear hi hn
    go_enter Try.func4, Try.ntmps4
    go_wp2_with (first
      | (go_at_call 8; (with_reducible refine (awake_is _ ?_).mono ?_); (exact trivial); rintro e wz ⟨rfl, hbn⟩; have BB := Lib.hid (tr BB.out hbn))
      | fail)
    go_ret
    exact ⟨rfl, BB.out⟩
  have hl2 : ¬ 100 < n := by omega
  clear hi hn
  go_enter Try.func4, Try.ntmps4
  go_wp2_with (first
      | (go_at_call 15; (with_reducible refine (WAdd_is wk _ hs d m x c _ ?_ ?_ H3.out).mono ?_); (exact trivial); (exact HI.out.below BB.out); rintro e w1 ⟨rfl, hbn⟩; have BB := Lib.hid (tr BB.out hbn); replace k0 := kept hbn k0; replace k1 := kept hbn k1; clear hbn)
      | (go_at_call 16; (with_reducible refine (rAdd_is wk _ hs d m x c _ ?_ H3.out).mono ?_); (exact HI.out.below BB.out); rintro e w2 ⟨rfl, hbn⟩; have BB := Lib.hid (tr BB.out hbn); replace k0 := kept hbn k0; replace k1 := kept hbn k1; clear hbn)
      | (go_at_call 8; (with_reducible refine (awake_is _ ?_).mono ?_); (exact trivial); rintro e wz ⟨rfl, hbn⟩; have BB := Lib.hid (tr BB.out hbn))
      | fail)
  go_ret
  exact ⟨rfl, BB.out⟩
end Go.Proofs.Ytkecjegjdlmdkaa.wd
