/-
  The law RateNegation walked.
-/
import Derived.Test.YtnboimaocmeojaaRateLaw2
namespace Go.Proofs.Ytnboimaocmeojaa.money
open Go Go.RowKit
set_option linter.unusedVariables false

/-- the mode that answers for the number with its sign turned -/
def otherM (m : Int) : Int := if m = 0 then 1 else if m = 1 then 0 else m
theorem otherM_ok {m : Int} (h : okMode m = true) : okMode (otherM m) = true := by
  unfold otherM
  split
  · rfl
  · split
    · rfl
    · exact h
theorem quot_other {n d m : Int} (hd : d ≠ 0) : quot (-n) d (otherM m) = -(quot n d m) := by
  rw [quot_turn n d _ hd]
  unfold otherM
  by_cases h0 : m = 0
  · subst h0; rfl
  · by_cases h1 : m = 1
    · subst h1; rfl
    · rw [if_neg h0, if_neg h1, if_neg h0, if_neg h1]
theorem rateR_neg {n d m a e : Int} (hm : okMode m = true) (h : rateR n d m = (a, e)) : rateR (-n) d (otherM m) = (-a, e) := by
  unfold rateR at h ⊢
  rw [hm, if_neg (by decide)] at h
  rw [otherM_ok hm, if_neg (by decide)]
  by_cases hd : d = 0
  · rw [if_pos hd] at h ⊢; cases h; rfl
  · rw [if_neg hd] at h ⊢
    rw [beyond_neg]
    by_cases hb : (beyond n 1000000000000000 || beyond d 1000000000000000) = true
    · rw [if_pos hb] at h ⊢; cases h; rfl
    · rw [if_neg hb] at h ⊢
      rw [show -n * 1000000 = -(n * 1000000) by omega, quot_other hd, beyond_neg]
      by_cases hq : beyond (quot (n * 1000000) d m) 1000000000 = true
      · rw [if_pos hq] at h ⊢; cases h; rfl
      · rw [if_neg hq] at h ⊢; cases h; rfl
theorem rateR_flip (n d m : Int) : rateR n (-d) m = rateR (-n) d m := by
  unfold rateR
  by_cases hd : d = 0
  · subst hd; rfl
  · rw [beyond_neg, beyond_neg]
    have h := quot_flip (-(n * 1000000)) d m hd
    rw [Int.neg_neg] at h
    rw [if_neg (show ¬ -d = 0 by omega), if_neg hd, h, show -n * 1000000 = -(n * 1000000) by omega]
theorem rateR_small {n d m a e : Int} (h : rateR n d m = (a, e)) : -1000000000 ≤ a ∧ a ≤ 1000000000 := by
  unfold rateR at h
  split at h
  · cases h; decide
  · split at h
    · cases h; decide
    · split at h
      · cases h; decide
      · split at h
        · cases h; decide
        · rename_i g
          cases h
          exact beyond_in (by simpa using g)

set_option maxRecDepth 4000 in
set_option maxHeartbeats 2000000 in
theorem walk_RateNegation (n d m : Int) (wn : In64 n) (wd : In64 d) (wm : In64 m) (w : World) :
    Calls Try.prog 8 #[.int .i64 n, .int .i64 d, .int .i64 m] w (True64 w) := by
  by_cases hin : -1000000000000000 ≤ n ∧ n ≤ 1000000000000000 ∧ -1000000000000000 ≤ d ∧ d ≤ 1000000000000000 ∧ 0 ≤ m ∧ m ≤ 5
  · obtain ⟨n0, n1, d0, d1, m0, m5⟩ := hin
    have hm : okMode m = true := by unfold okMode; simp; omega
    obtain ⟨a, e, h1⟩ : ∃ a e, rateR n d m = (a, e) := ⟨_, _, rfl⟩
    have h2 := rateR_neg hm h1
    have h3 : rateR n (-d) (otherM m) = (-a, e) := by rw [rateR_flip, h2]
    obtain ⟨b0, b1⟩ := rateR_small h1
    obtain ⟨nn, hnn⟩ : ∃ nn, -n = nn := ⟨_, rfl⟩
    obtain ⟨dd, hdd⟩ : ∃ dd, -d = dd := ⟨_, rfl⟩
    obtain ⟨a2, ha2⟩ : ∃ a2, -a = a2 := ⟨_, rfl⟩
    have x1 : wrap64 (-n) = nn := by rw [hnn]; exact IntWalk.wrap64_in nn ⟨by omega, by omega⟩
    have x2 : IntKind.i64.wrap (-n) = nn := by rw [hnn]; exact i64_in (by omega) (by omega)
    have x3 : wrap64 (-d) = dd := by rw [hdd]; exact IntWalk.wrap64_in dd ⟨by omega, by omega⟩
    have x4 : IntKind.i64.wrap (-d) = dd := by rw [hdd]; exact i64_in (by omega) (by omega)
    have x5 : wrap64 (-a2) = a := by rw [← ha2, Int.neg_neg]; exact IntWalk.wrap64_in a ⟨by omega, by omega⟩
    have x6 : IntKind.i64.wrap (-a2) = a := by rw [← ha2, Int.neg_neg]; exact i64_in (by omega) (by omega)
    rw [hnn, ha2] at h2
    rw [hdd, ha2] at h3
    have g1 : ¬ n < -1000000000000000 := by omega
    have g2 : ¬ 1000000000000000 < n := by omega
    have g3 : ¬ d < -1000000000000000 := by omega
    have g4 : ¬ 1000000000000000 < d := by omega
    have g5 : ¬ m < 0 := by omega
    have g6 : ¬ 5 < m := by omega
    have H1 := Lib.hid h1
    rcases (show m = 0 ∨ m = 1 ∨ (m ≠ 0 ∧ m ≠ 1) by omega) with rfl | rfl | ⟨hm0, hm1⟩
    · have H2 := Lib.hid (show rateR nn d 1 = (a2, e) from h2)
      have H3 := Lib.hid (show rateR n dd 1 = (a2, e) from h3)
      clear h1 h2 h3 hnn hdd ha2 wn wd wm hm
      go_enter Try.func8, Try.ntmps8
      go_wp2_with (first
        | (go_at_call 9; (with_reducible refine (FromRatio_is n d 0 a e _ H1.out).mono ?_); rintro e w1 ⟨rfl, hb1⟩)
        | (go_at_call 9; (with_reducible refine (FromRatio_is nn d 1 a2 e _ H2.out).mono ?_); rintro e w2 ⟨rfl, hb2⟩)
        | (go_at_call 9; (with_reducible refine (FromRatio_is n dd 1 a2 e _ H3.out).mono ?_); rintro e w3 ⟨rfl, hb3⟩)
        | (go_at_call 11; refine (rawake_is _).mono ?_; rintro e w4 ⟨rfl, hb4⟩)
        | fail)
      go_ret
      exact ⟨rfl, tr (tr (tr hb1 hb2) hb3) hb4⟩
    · have H2 := Lib.hid (show rateR nn d 0 = (a2, e) from h2)
      have H3 := Lib.hid (show rateR n dd 0 = (a2, e) from h3)
      clear h1 h2 h3 hnn hdd ha2 wn wd wm hm
      go_enter Try.func8, Try.ntmps8
      go_wp2_with (first
        | (go_at_call 9; (with_reducible refine (FromRatio_is n d 1 a e _ H1.out).mono ?_); rintro e w1 ⟨rfl, hb1⟩)
        | (go_at_call 9; (with_reducible refine (FromRatio_is nn d 0 a2 e _ H2.out).mono ?_); rintro e w2 ⟨rfl, hb2⟩)
        | (go_at_call 9; (with_reducible refine (FromRatio_is n dd 0 a2 e _ H3.out).mono ?_); rintro e w3 ⟨rfl, hb3⟩)
        | (go_at_call 11; refine (rawake_is _).mono ?_; rintro e w4 ⟨rfl, hb4⟩)
        | fail)
      go_ret
      exact ⟨rfl, tr (tr (tr hb1 hb2) hb3) hb4⟩
    · have ho : otherM m = m := by unfold otherM; rw [if_neg hm0, if_neg hm1]
      rw [ho] at h2 h3
      have H2 := Lib.hid h2
      have H3 := Lib.hid h3
      have k1 : (m == 0) = false := by simpa using hm0
      have k2 : (m == 1) = false := by simpa using hm1
      clear h1 h2 h3 hnn hdd ha2 wn wd wm hm ho
      go_enter Try.func8, Try.ntmps8
      go_wp2_with (first
        | (go_at_call 9; (with_reducible refine (FromRatio_is n d m a e _ H1.out).mono ?_); rintro e w1 ⟨rfl, hb1⟩)
        | (go_at_call 9; (with_reducible refine (FromRatio_is nn d m a2 e _ H2.out).mono ?_); rintro e w2 ⟨rfl, hb2⟩)
        | (go_at_call 9; (with_reducible refine (FromRatio_is n dd m a2 e _ H3.out).mono ?_); rintro e w3 ⟨rfl, hb3⟩)
        | (go_at_call 11; refine (rawake_is _).mono ?_; rintro e w4 ⟨rfl, hb4⟩)
        | fail)
      go_ret
      exact ⟨rfl, tr (tr (tr hb1 hb2) hb3) hb4⟩
  · have h2 : n < -1000000000000000 ∨ (¬ n < -1000000000000000 ∧ 1000000000000000 < n) ∨ (¬ n < -1000000000000000 ∧ ¬ 1000000000000000 < n ∧ d < -1000000000000000) ∨ (¬ n < -1000000000000000 ∧ ¬ 1000000000000000 < n ∧ ¬ d < -1000000000000000 ∧ 1000000000000000 < d)
        ∨ (¬ n < -1000000000000000 ∧ ¬ 1000000000000000 < n ∧ ¬ d < -1000000000000000 ∧ ¬ 1000000000000000 < d ∧ m < 0) ∨ (¬ n < -1000000000000000 ∧ ¬ 1000000000000000 < n ∧ ¬ d < -1000000000000000 ∧ ¬ 1000000000000000 < d ∧ ¬ m < 0 ∧ 5 < m) := by omega
    clear hin wn wd wm
    rcases h2 with g | ⟨g, g2⟩ | ⟨g, g2, g3⟩ | ⟨g, g2, g3, g4⟩ | ⟨g, g2, g3, g4, g5⟩ | ⟨g, g2, g3, g4, g5, g6⟩
    all_goals
      go_enter Try.func8, Try.ntmps8
      go_wp2_with (first
        | (go_at_call 11; refine (rawake_is _).mono ?_; rintro e w4 ⟨rfl, hb4⟩)
        | fail)
      go_ret
      exact ⟨rfl, hb4⟩
end Go.Proofs.Ytnboimaocmeojaa.money
