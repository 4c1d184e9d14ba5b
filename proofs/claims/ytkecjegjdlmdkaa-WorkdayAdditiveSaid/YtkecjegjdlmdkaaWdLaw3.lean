/-
  The law WorkdayAdditive walked.
-/
import Derived.Test.YtkecjegjdlmdkaaWdAwake
import Derived.Deep.RegionHeld3
namespace Go.Proofs.Ytkecjegjdlmdkaa.wd
open Go Go.RowKit Go.Proofs.Ytkecjegjdlmdkaa.money Go.Proofs.Ytkecjegjdlmdkaa.ints Go.Proofs.Ytkecjegjdlmdkaa.rng
set_option linter.unusedVariables false
set_option linter.unusedSimpArgs false

theorem cntR_bounds (wk : Int) (hs : List Int) (a b : Int) : 0 ≤ cntR wk hs a b ∧ cntR wk hs a b ≤ 109573 := by
  unfold cntR
  split
  · rename_i h
    have h1 := cnt_bounds wk hs (b - a).toNat a
    have h2 : spanR a b = true := by simp only [Bool.and_eq_true] at h; exact h.2
    unfold spanR at h2
    simp only [Bool.and_eq_true, decide_eq_true_eq] at h2
    omega
  · omega

set_option maxRecDepth 4000 in
set_option maxHeartbeats 4000000 in
theorem walk_WorkdayAdditive (wk : Int) (hv : Value) (hs : List Int) (a b c : Int) (w : World) (hi : Ints w hv hs) (he : Env w) : Calls Try.prog 7 #[.agg #[.int .i64 wk, hv], .int .i64 a, .int .i64 b, .int .i64 c] w (GivesB w true) := by
  obtain ⟨A, cp, rfl⟩ := hi.form0
  obtain ⟨n, hn⟩ : ∃ n, hs.length = n := ⟨_, rfl⟩
  have hm := hi.1
  rw [hn] at hi hm ⊢
  have HI := Lib.hid hi
  have BB := Lib.hid (al (Below.refl w.heap.size w) (.cells #[.int .i64 wk, .slice A n cp] 24))
  have k0 : (w.alloc (.cells #[.int .i64 wk, .slice A n cp] 24)).cell? ⟨w.heap.size, 0, none⟩ = some (.int .i64 wk) := by simp [go_sem]
  have k1 : (w.alloc (.cells #[.int .i64 wk, .slice A n cp] 24)).cell? ⟨w.heap.size, 1, none⟩ = some (.slice A n cp) := by simp [go_sem]
  by_cases hl : (100 : Int) < n
  · have hl2 : 100 < n := by omega
    clear hi hn
    go_enter Try.func7, Try.ntmps7
    go_wp2_with (first
      | (go_at_call 8; (with_reducible refine (awake_is _ ?_).mono ?_); (exact trivial); rintro e wz ⟨rfl, hbn⟩; have BB := Lib.hid (tr BB.out hbn))
      | fail)
    go_ret
    exact ⟨rfl, BB.out⟩
  have hl2 : ¬ 100 < n := by omega
  clear hi hn
  by_cases hq : a < 0 ∨ (¬ a < 0 ∧ b < a) ∨ (¬ a < 0 ∧ ¬ b < a ∧ c < b) ∨ (¬ a < 0 ∧ ¬ b < a ∧ ¬ c < b ∧ 109573 < c) ∨ (¬ a < 0 ∧ ¬ b < a ∧ ¬ c < b ∧ ¬ 109573 < c ∧ a + 2000 < c)
  · rcases hq with z0 | ⟨z0, z1⟩ | ⟨z0, z1, z2⟩ | ⟨z0, z1, z2, z3⟩ | ⟨z0, z1, z2, z3, z4⟩
    all_goals
      go_enter Try.func7, Try.ntmps7
      go_wp2_with (first
      | (go_at_call 8; (with_reducible refine (awake_is _ ?_).mono ?_); (exact trivial); rintro e wz ⟨rfl, hbn⟩; have BB := Lib.hid (tr BB.out hbn))
        | fail)
      go_ret
      exact ⟨rfl, BB.out⟩
  have z0 : ¬ a < 0 := by omega
  have z1 : ¬ b < a := by omega
  have z2 : ¬ c < b := by omega
  have z3 : ¬ 109573 < c := by omega
  have z4 : ¬ a + 2000 < c := by omega
  clear hq
  obtain ⟨p, h1⟩ : ∃ r, cntR wk hs a b = r := ⟨_, rfl⟩
  obtain ⟨q, h2⟩ : ∃ r, cntR wk hs b c = r := ⟨_, rfl⟩
  obtain ⟨s, h3⟩ : ∃ r, cntR wk hs a c = r := ⟨_, rfl⟩
  have hsum := cntR_add (wk := wk) (hs := hs) (show 0 ≤ a by omega) (show a ≤ b by omega) (show b ≤ c by omega) (show c ≤ 109573 by omega)
  rw [h1, h2, h3] at hsum
  have hp := cntR_bounds wk hs a b
  have hqb := cntR_bounds wk hs b c
  have hsb := cntR_bounds wk hs a c
  rw [h1] at hp
  rw [h2] at hqb
  rw [h3] at hsb
  obtain ⟨p0, p1⟩ := hp
  obtain ⟨q0, q1⟩ := hqb
  obtain ⟨s0, s1⟩ := hsb
  have ne0 : (s != s) = false := by simp
  have sw1 : wrap64 s = s := IntWalk.wrap64_in _ ⟨by omega, by omega⟩
  have sw2 : IntKind.i64.wrap s = s := i64_in (by omega) (by omega)
  have H1 := Lib.hid h1
  have H2 := Lib.hid h2
  have H3 := Lib.hid h3
  obtain ⟨⟨x, e⟩, h4⟩ : ∃ r, nextR wk hs a = r := ⟨_, rfl⟩
  have H4 := Lib.hid h4
  clear h1 h2 h3
  by_cases he0 : e = 0
  · subst he0
    have hw := nextR_ok h4
    have h5 := nextR_at hw
    have H5 := Lib.hid h5
    have HW := Lib.hid hw
    clear h4 h5 hw
    go_enter Try.func7, Try.ntmps7
    go_wp2_with fail
    go_region_held3 (fun w' => w'.cell? ⟨w.heap.size, 0, none⟩ = some (.int .i64 wk) ∧ w'.cell? ⟨w.heap.size, 1, none⟩ = some (.slice A n cp))
      (first | go_keep | (go_split_ands; refine ⟨kept hbn ?_, kept hbn ?_⟩ <;> assumption))
      (first
          | (go_at_call 17; (with_reducible refine (WCount_is wk _ hs a b p _ ?_ ?_ H1.out).mono ?_); (exact trivial); (exact (by first | exact HI.out.below BB.out | exact HI.out.below (below_drewN BB.out _) | exact HI.out.below (below_drewN BB.out 1))); rintro e wn ⟨rfl, hbn⟩; have BB := (by first | exact Lib.hid (tr BB.out hbn) | exact Lib.hid (tr (below_drewN BB.out _) hbn) | exact Lib.hid (tr (below_drewN BB.out 1) hbn) : Hid (Below w.heap.size w wn)))
          | (go_at_call 17; (with_reducible refine (WCount_is wk _ hs b c q _ ?_ ?_ H2.out).mono ?_); (exact trivial); (exact (by first | exact HI.out.below BB.out | exact HI.out.below (below_drewN BB.out _) | exact HI.out.below (below_drewN BB.out 1))); rintro e wn ⟨rfl, hbn⟩; have BB := (by first | exact Lib.hid (tr BB.out hbn) | exact Lib.hid (tr (below_drewN BB.out _) hbn) | exact Lib.hid (tr (below_drewN BB.out 1) hbn) : Hid (Below w.heap.size w wn)))
          | (go_at_call 17; (with_reducible refine (WCount_is wk _ hs a c s _ ?_ ?_ H3.out).mono ?_); (exact trivial); (exact (by first | exact HI.out.below BB.out | exact HI.out.below (below_drewN BB.out _) | exact HI.out.below (below_drewN BB.out 1))); rintro e wn ⟨rfl, hbn⟩; have BB := (by first | exact Lib.hid (tr BB.out hbn) | exact Lib.hid (tr (below_drewN BB.out _) hbn) | exact Lib.hid (tr (below_drewN BB.out 1) hbn) : Hid (Below w.heap.size w wn)))
          | fail)
    obtain ⟨kk0, kk1⟩ := (by assumption : wn.cell? ⟨w.heap.size, 0, none⟩ = some (.int .i64 wk) ∧ wn.cell? ⟨w.heap.size, 1, none⟩ = some (.slice A n cp))
    clear k0 k1
    have k0 := kk0
    have k1 := kk1
    clear kk0 kk1
    go_wp2_with (first
      | (go_at_call 9; (with_reducible refine (WNext_is wk _ hs a x 0 _ ?_ ?_ H4.out).mono ?_); (exact trivial); (exact HI.out.below BB.out); rintro e w5 ⟨rfl, hbn⟩; have BB := Lib.hid (tr BB.out hbn); replace k0 := kept hbn k0; replace k1 := kept hbn k1; clear hbn)
      | (go_at_call 9; (with_reducible refine (WNext_is wk _ hs x x 0 _ ?_ ?_ H5.out).mono ?_); (exact trivial); (exact HI.out.below BB.out); rintro e w6 ⟨rfl, hbn⟩; have BB := Lib.hid (tr BB.out hbn); replace k0 := kept hbn k0; replace k1 := kept hbn k1; clear hbn)
      | (go_at_call 13; (with_reducible refine (WIs_is wk _ hs x true _ ?_ ?_ HW.out).mono ?_); (exact trivial); (exact HI.out.below BB.out); rintro e w7 ⟨rfl, hbn⟩; have BB := Lib.hid (tr BB.out hbn); replace k0 := kept hbn k0; replace k1 := kept hbn k1; clear hbn)
      | (go_at_call 8; (with_reducible refine (awake_is _ ?_).mono ?_); (exact trivial); rintro e wz ⟨rfl, hbn⟩; have BB := Lib.hid (tr BB.out hbn))
      | fail)
    go_ret
    exact ⟨rfl, BB.out⟩
  · have hc0 : (e != 0) = true := by simpa using he0
    clear h4
    go_enter Try.func7, Try.ntmps7
    go_wp2_with fail
    go_region_held3 (fun w' => w'.cell? ⟨w.heap.size, 0, none⟩ = some (.int .i64 wk) ∧ w'.cell? ⟨w.heap.size, 1, none⟩ = some (.slice A n cp))
      (first | go_keep | (go_split_ands; refine ⟨kept hbn ?_, kept hbn ?_⟩ <;> assumption))
      (first
          | (go_at_call 17; (with_reducible refine (WCount_is wk _ hs a b p _ ?_ ?_ H1.out).mono ?_); (exact trivial); (exact (by first | exact HI.out.below BB.out | exact HI.out.below (below_drewN BB.out _) | exact HI.out.below (below_drewN BB.out 1))); rintro e wn ⟨rfl, hbn⟩; have BB := (by first | exact Lib.hid (tr BB.out hbn) | exact Lib.hid (tr (below_drewN BB.out _) hbn) | exact Lib.hid (tr (below_drewN BB.out 1) hbn) : Hid (Below w.heap.size w wn)))
          | (go_at_call 17; (with_reducible refine (WCount_is wk _ hs b c q _ ?_ ?_ H2.out).mono ?_); (exact trivial); (exact (by first | exact HI.out.below BB.out | exact HI.out.below (below_drewN BB.out _) | exact HI.out.below (below_drewN BB.out 1))); rintro e wn ⟨rfl, hbn⟩; have BB := (by first | exact Lib.hid (tr BB.out hbn) | exact Lib.hid (tr (below_drewN BB.out _) hbn) | exact Lib.hid (tr (below_drewN BB.out 1) hbn) : Hid (Below w.heap.size w wn)))
          | (go_at_call 17; (with_reducible refine (WCount_is wk _ hs a c s _ ?_ ?_ H3.out).mono ?_); (exact trivial); (exact (by first | exact HI.out.below BB.out | exact HI.out.below (below_drewN BB.out _) | exact HI.out.below (below_drewN BB.out 1))); rintro e wn ⟨rfl, hbn⟩; have BB := (by first | exact Lib.hid (tr BB.out hbn) | exact Lib.hid (tr (below_drewN BB.out _) hbn) | exact Lib.hid (tr (below_drewN BB.out 1) hbn) : Hid (Below w.heap.size w wn)))
          | fail)
    obtain ⟨kk0, kk1⟩ := (by assumption : wn.cell? ⟨w.heap.size, 0, none⟩ = some (.int .i64 wk) ∧ wn.cell? ⟨w.heap.size, 1, none⟩ = some (.slice A n cp))
    clear k0 k1
    have k0 := kk0
    have k1 := kk1
    clear kk0 kk1
    go_wp2_with (first
      | (go_at_call 9; (with_reducible refine (WNext_is wk _ hs a x e _ ?_ ?_ H4.out).mono ?_); (exact trivial); (exact HI.out.below BB.out); rintro e w5 ⟨rfl, hbn⟩; have BB := Lib.hid (tr BB.out hbn); replace k0 := kept hbn k0; replace k1 := kept hbn k1; clear hbn)
      | (go_at_call 8; (with_reducible refine (awake_is _ ?_).mono ?_); (exact trivial); rintro e wz ⟨rfl, hbn⟩; have BB := Lib.hid (tr BB.out hbn))
      | fail)
    go_ret
    exact ⟨rfl, BB.out⟩
end Go.Proofs.Ytkecjegjdlmdkaa.wd
