/-
  The laws RateProrateBound and RateNegation walked.
-/
import Derived.Test.YtnboimaocmeojaaRateLaw1
namespace Go.Proofs.Ytnboimaocmeojaa.money
open Go Go.RowKit
set_option linter.unusedVariables false

/-! ### parts of a period -/
theorem share_floor {c a t : Int} (c0 : 0 ≤ c) (c1 : c ≤ 1000000000000000) (t0 : 1 ≤ t) (t1 : t ≤ 109573) (a0 : 0 ≤ a) (a1 : a ≤ t) :
    prorateR c a t 0 = (c * a / t, 0) ∧ 0 ≤ c * a / t ∧ c * a / t ≤ c := by
  have h0 : 0 ≤ c * a / t := Int.ediv_nonneg (Int.mul_nonneg c0 a0) (by omega)
  have h1 : c * a / t ≤ c := by
    have : c * a ≤ c * t := Int.mul_le_mul_of_nonneg_left a1 c0
    have := Int.ediv_le_ediv (show 0 < t by omega) this
    rwa [Int.mul_ediv_cancel _ (by omega)] at this
  have hq : quot (c * a) t 0 = c * a / t := by
    rw [← quot_floor (by omega) (by decide)]
    unfold rndF upF
    simp
  refine ⟨?_, h0, h1⟩
  have b1 : beyond c 1000000000000000 = false := by unfold beyond; simp; omega
  have b2 : beyond a 1000000000 = false := by unfold beyond; simp; omega
  have b3 : beyond t 1000000000 = false := by unfold beyond; simp; omega
  have b4 : beyond (c * a / t) 1000000000000000 = false := by unfold beyond; simp; omega
  unfold prorateR mulR
  rw [if_neg (by decide), if_neg (by omega), decide_eq_false (by omega : ¬ 109573 < t), decide_eq_false (by omega : ¬ a < 0), decide_eq_false (by omega : ¬ t < a), b1]
  rw [if_neg (by decide), if_neg (by decide), if_neg (by omega), b2, b3, if_neg (by decide), hq, b4, if_neg (by decide)]
theorem parts_bound {c a b t : Int} (t0 : 1 ≤ t) : c * a / t + c * b / t ≤ c * (a + b) / t ∧ c * (a + b) / t ≤ c * a / t + c * b / t + 1 := by
  have h1 := Int.mul_ediv_add_emod (c * a) t
  have h2 := Int.mul_ediv_add_emod (c * b) t
  have h3 := Int.mul_ediv_add_emod (c * (a + b)) t
  have r1 := Int.emod_nonneg (c * a) (show t ≠ 0 by omega)
  have r2 := Int.emod_nonneg (c * b) (show t ≠ 0 by omega)
  have r3 := Int.emod_nonneg (c * (a + b)) (show t ≠ 0 by omega)
  have s1 := Int.emod_lt_of_pos (c * a) (show 0 < t by omega)
  have s2 := Int.emod_lt_of_pos (c * b) (show 0 < t by omega)
  have s3 := Int.emod_lt_of_pos (c * (a + b)) (show 0 < t by omega)
  rw [Int.mul_add] at h3 r3 s3 ⊢
  obtain ⟨x, hx⟩ : ∃ x, c * a / t = x := ⟨_, rfl⟩
  obtain ⟨y, hy⟩ : ∃ y, c * b / t = y := ⟨_, rfl⟩
  obtain ⟨z, hz⟩ : ∃ z, (c * a + c * b) / t = z := ⟨_, rfl⟩
  rw [hx] at h1 ⊢
  rw [hy] at h2 ⊢
  rw [hz] at h3 ⊢
  have e : t * (z - x - y) = c * a % t + c * b % t - (c * a + c * b) % t := by
    rw [Int.mul_sub, Int.mul_sub]; omega
  have l1 : -1 < z - x - y := by
    rcases Int.lt_or_le (-1) (z - x - y) with g | g
    · exact g
    · have : t * (z - x - y) ≤ t * (-1) := Int.mul_le_mul_of_nonneg_left g (by omega)
      omega
  have l2 : z - x - y < 2 := by
    rcases Int.lt_or_le (z - x - y) 2 with g | g
    · exact g
    · have : t * 2 ≤ t * (z - x - y) := Int.mul_le_mul_of_nonneg_left g (by omega)
      omega
  omega

set_option maxRecDepth 4000 in
set_option maxHeartbeats 2000000 in
theorem walk_RateProrateBound (c a b t : Int) (wc : In64 c) (wa : In64 a) (wb : In64 b) (wt : In64 t) (w : World) :
    Calls Try.prog 7 #[.int .i64 c, .int .i64 a, .int .i64 b, .int .i64 t] w (True64 w) := by
  by_cases hin : 0 ≤ c ∧ c ≤ 1000000000000000 ∧ 1 ≤ t ∧ t ≤ 109573 ∧ 0 ≤ a ∧ a ≤ t ∧ 0 ≤ b ∧ b ≤ t - a
  · obtain ⟨c0, c1, t0, t1, a0, a1, b0, b1⟩ := hin
    obtain ⟨h1, x0, x1⟩ := share_floor c0 c1 t0 t1 a0 a1
    obtain ⟨h2, y0, y1⟩ := share_floor c0 c1 t0 t1 b0 (show b ≤ t by omega)
    obtain ⟨h3, z0, z1⟩ := share_floor c0 c1 t0 t1 (show 0 ≤ a + b by omega) (show a + b ≤ t by omega)
    obtain ⟨p1, p2⟩ := parts_bound (c := c) (a := a) (b := b) t0
    obtain ⟨x, hx⟩ : ∃ x, c * a / t = x := ⟨_, rfl⟩
    obtain ⟨y, hy⟩ : ∃ y, c * b / t = y := ⟨_, rfl⟩
    obtain ⟨z, hz⟩ : ∃ z, c * (a + b) / t = z := ⟨_, rfl⟩
    rw [hx] at h1 x0 x1 p1 p2
    rw [hy] at h2 y0 y1 p1 p2
    rw [hz] at h3 z0 z1 p1 p2
    have H1 := Lib.hid h1
    have H2 := Lib.hid h2
    have H3 := Lib.hid h3
    have g1 : ¬ c < 0 := by omega
    have g2 : ¬ 1000000000000000 < c := by omega
    have g3 : ¬ t < 1 := by omega
    have g4 : ¬ 109573 < t := by omega
    have g5 : ¬ a < 0 := by omega
    have g6 : ¬ t < a := by omega
    have g7 : ¬ b < 0 := by omega
    have g8 : ¬ t - a < b := by omega
    clear h1 h2 h3 hx hy hz wc wa wb wt
    go_enter Try.func7, Try.ntmps7
    go_wp2_with (first
      | (go_at_call 16; (with_reducible refine (Prorate_is c a t 0 x 0 _ H1.out).mono ?_); rintro e w1 ⟨rfl, hb1⟩)
      | (go_at_call 16; (with_reducible refine (Prorate_is c b t 0 y 0 _ H2.out).mono ?_); rintro e w2 ⟨rfl, hb2⟩)
      | (go_at_call 16; (with_reducible refine (Prorate_is c (a + b) t 0 z 0 _ H3.out).mono ?_); rintro e w3 ⟨rfl, hb3⟩)
      | (go_at_call 11; refine (rawake_is _).mono ?_; rintro e w4 ⟨rfl, hb4⟩)
      | fail)
    go_ret
    exact ⟨rfl, tr (tr (tr hb1 hb2) hb3) hb4⟩
  · unfold In64 at wc wa wb wt
    have h2 : c < 0 ∨ (¬ c < 0 ∧ 1000000000000000 < c) ∨ (¬ c < 0 ∧ ¬ 1000000000000000 < c ∧ t < 1) ∨ (¬ c < 0 ∧ ¬ 1000000000000000 < c ∧ ¬ t < 1 ∧ 109573 < t) ∨ (¬ c < 0 ∧ ¬ 1000000000000000 < c ∧ ¬ t < 1 ∧ ¬ 109573 < t ∧ a < 0)
        ∨ (¬ c < 0 ∧ ¬ 1000000000000000 < c ∧ ¬ t < 1 ∧ ¬ 109573 < t ∧ ¬ a < 0 ∧ t < a) ∨ (¬ c < 0 ∧ ¬ 1000000000000000 < c ∧ ¬ t < 1 ∧ ¬ 109573 < t ∧ ¬ a < 0 ∧ ¬ t < a ∧ b < 0)
        ∨ (¬ c < 0 ∧ ¬ 1000000000000000 < c ∧ ¬ t < 1 ∧ ¬ 109573 < t ∧ ¬ a < 0 ∧ ¬ t < a ∧ ¬ b < 0 ∧ t - a < b) := by omega
    clear hin wc wa wb wt
    rcases h2 with g | ⟨g, g2⟩ | ⟨g, g2, g3⟩ | ⟨g, g2, g3, g4⟩ | ⟨g, g2, g3, g4, g5⟩ | ⟨g, g2, g3, g4, g5, g6⟩ | ⟨g, g2, g3, g4, g5, g6, g7⟩ | ⟨g, g2, g3, g4, g5, g6, g7, g8⟩
    all_goals
      go_enter Try.func7, Try.ntmps7
      go_wp2_with (first
        | (go_at_call 11; refine (rawake_is _).mono ?_; rintro e w4 ⟨rfl, hb4⟩)
        | fail)
      go_ret
      exact ⟨rfl, hb4⟩
end Go.Proofs.Ytnboimaocmeojaa.money
