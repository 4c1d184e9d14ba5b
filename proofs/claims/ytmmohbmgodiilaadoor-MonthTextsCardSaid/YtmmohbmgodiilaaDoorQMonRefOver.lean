/-
  What the reference of chapter 7 answers: Overlap. The walk.
-/
import Derived.Test.YtmmohbmgodiilaaDoorQMonRef
namespace Go.Proofs.YtmmohbmgodiilaaDoor.mon
open Go Go.RowKit Go.Proofs.YtmmohbmgodiilaaDoor.money
open Go.Proofs.YtmmohbmgodiilaaDoor.rng (bcell ref_bool okR)
set_option linter.unusedVariables false
set_option linter.unusedSimpArgs false

set_option maxRecDepth 4000 in
set_option maxHeartbeats 2000000 in
theorem rOver_is (m x y c : Int) (w : World) (h : overR m x y = c) : Calls Tryd.prog 15 #[.int .i64 m, .agg #[.int .i64 x, .int .i64 y]] w (GivesI w c) := by
  obtain ⟨⟨⟨a, b⟩, e0⟩, hr⟩ : ∃ r, rangeR m = r := ⟨_, rfl⟩
  have HR := Lib.hid hr
  cases hv : okM m
  · obtain rfl : c = 0 := by rw [← h]; unfold overR; rw [hv]; rfl
    unfold rangeR at hr
    rw [hv, if_neg (by decide)] at hr
    cases hr
    clear hv h
    go_enter Tryd.func15, Tryd.ntmps15
    go_wp2_with (go_at_call 9; refine (rRange_is m 0 0 3 _ HR.out).mono ?_; rintro e w1 ⟨rfl, hb1⟩)
    go_ret
    exact ⟨rfl, al (tr (al (Below.refl _ _) _) hb1) _⟩
  · have hfb := from_bd hv
    have hdb := days_bd hv
    unfold rangeR at hr
    rw [hv, if_pos rfl] at hr
    unfold overR at h
    rw [hv, Bool.true_and] at h
    obtain ⟨g, hg⟩ : ∃ g, daysR m = g := ⟨_, rfl⟩
    obtain ⟨p, hp⟩ : ∃ p, fromM m = p := ⟨_, rfl⟩
    rw [hg, hp] at hr h
    rw [hg, hp] at hfb
    rw [hg] at hdb
    cases hr
    obtain ⟨q, hq⟩ : ∃ q, okR (x, y) = q := ⟨_, rfl⟩
    have HQ := Lib.hid hq
    rw [hq] at h
    cases q
    · rw [if_neg (by decide)] at h
      subst h
      clear hv hq hg hp hfb hdb
      go_enter Tryd.func15, Tryd.ntmps15
      go_wp2_with (first
        | (go_at_call 9; (with_reducible refine (rRange_is m a (a + g) 0 _ HR.out).mono ?_); rintro e w1 ⟨rfl, hb1⟩; obtain ⟨hc1, hf1⟩ := bcell hb1; have hz1 := hb1.size; simp at hz1; have s0 : w.heap.size < w1.heap.size := (by omega))
        | (go_at_call 31; (with_reducible refine (rng.rValid_is x y false _ HQ.out).mono ?_); rintro e w2 ⟨rfl, hb2⟩)
        | fail)
      go_ret
      exact ⟨rfl, tr (al (tr (al (Below.refl _ _) _) hb1) _) hb2⟩
    · rw [if_pos rfl] at h
      have hxy : 0 ≤ x ∧ x ≤ y ∧ y ≤ 109573 := by simpa [okR] using hq
      obtain ⟨x0, x1, x2⟩ := hxy
      obtain ⟨p0, p1⟩ := hfb
      obtain ⟨g0, g1⟩ := hdb
      have H := Lib.hid h
      clear hv hq hg hp h
      go_enter Tryd.func15, Tryd.ntmps15
      go_wp2_with (first
        | (go_at_call 9; (with_reducible refine (rRange_is m a (a + g) 0 _ HR.out).mono ?_); rintro e w1 ⟨rfl, hb1⟩; obtain ⟨hc1, hf1⟩ := bcell hb1; have hz1 := hb1.size; simp at hz1; have s0 : w.heap.size < w1.heap.size := (by omega))
        | (go_at_call 31; (with_reducible refine (rng.rValid_is x y true _ HQ.out).mono ?_); rintro e w2 ⟨rfl, hb2⟩; obtain ⟨hc2, hf2⟩ := bcell hb2; have hz2 := hb2.size; simp at hz2; have s1 : w.heap.size < w2.heap.size := (by omega); have s2 : w1.heap.size < w2.heap.size := (by omega))
        | fail)
      all_goals go_ret
      all_goals exact ⟨ret_int (by rw [← H.out]; omega), tr (al (tr (al (Below.refl _ _) _) hb1) _) hb2⟩
end Go.Proofs.YtmmohbmgodiilaaDoor.mon
