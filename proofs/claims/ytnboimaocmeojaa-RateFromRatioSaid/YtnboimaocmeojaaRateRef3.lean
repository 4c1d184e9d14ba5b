/-
  What the reference's FromRatio of chapter 3 answers: the walk.
-/
import Derived.Test.YtnboimaocmeojaaRateRef2
namespace Go.Proofs.Ytnboimaocmeojaa.money
open Go Go.RowKit
set_option linter.unusedVariables false

theorem quot_flip (n d m : Int) (hd : d ≠ 0) : quot (-n) (-d) m = quot n d m := by
  by_cases hn : n = 0
  · subst hn
    have z : ∀ d, d ≠ 0 → quot 0 d m = 0 := fun d hd => by
      unfold quot
      rw [Int.natAbs_zero, Nat.zero_div, Nat.zero_mod]
      exact rnd_zero _ (by omega) _ _
    rw [Int.neg_zero, z _ (by omega), z _ hd]
  · rw [quot_form, quot_form, Int.natAbs_neg, Int.natAbs_neg]
    have e : (decide (-n < 0) != decide (-d < 0)) = (decide (n < 0) != decide (d < 0)) := by
      by_cases h : n < 0
      · by_cases g : d < 0
        · rw [decide_eq_true h, decide_eq_true g, decide_eq_false (by omega : ¬ -n < 0), decide_eq_false (by omega : ¬ -d < 0)]; rfl
        · rw [decide_eq_true h, decide_eq_false g, decide_eq_false (by omega : ¬ -n < 0), decide_eq_true (by omega : -d < 0)]; rfl
      · by_cases g : d < 0
        · rw [decide_eq_false h, decide_eq_true g, decide_eq_true (by omega : -n < 0), decide_eq_false (by omega : ¬ -d < 0)]; rfl
        · rw [decide_eq_false h, decide_eq_false g, decide_eq_true (by omega : -n < 0), decide_eq_true (by omega : -d < 0)]; rfl
    rw [e]
/-- a division of a number times a million in three steps -/
theorem steps_of {n d : Int} (hd : 0 < d) : n / d * 1000000 + n % d * 1000 / d * 1000 + n % d * 1000 % d * 1000 / d = n * 1000000 / d ∧ n % d * 1000 % d * 1000 % d = n * 1000000 % d := by
  have h1 := Int.mul_ediv_add_emod n d
  have h2 := Int.mul_ediv_add_emod (n % d * 1000) d
  have h3 := Int.mul_ediv_add_emod (n % d * 1000 % d * 1000) d
  have r0 := Int.emod_nonneg (n % d * 1000 % d * 1000) (show d ≠ 0 by omega)
  have r1 := Int.emod_lt_of_pos (n % d * 1000 % d * 1000) hd
  obtain ⟨q, hq⟩ : ∃ q, n / d = q := ⟨_, rfl⟩
  obtain ⟨r, hr⟩ : ∃ r, n % d = r := ⟨_, rfl⟩
  rw [hq, hr] at h1
  rw [hr] at h2 h3 r0 r1
  rw [hq, hr]
  obtain ⟨a, ha⟩ : ∃ a, r * 1000 / d = a := ⟨_, rfl⟩
  obtain ⟨s, hs⟩ : ∃ s, r * 1000 % d = s := ⟨_, rfl⟩
  rw [ha, hs] at h2
  rw [hs] at h3 r0 r1
  rw [ha, hs]
  obtain ⟨b, hb⟩ : ∃ b, s * 1000 / d = b := ⟨_, rfl⟩
  obtain ⟨t, ht⟩ : ∃ t, s * 1000 % d = t := ⟨_, rfl⟩
  rw [hb, ht] at h3
  rw [ht] at r0 r1
  rw [hb, ht]
  have e : n * 1000000 = t + d * (q * 1000000 + a * 1000 + b) := by
    rw [Int.mul_add, Int.mul_add, ← Int.mul_assoc, ← Int.mul_assoc]
    omega
  rw [e]
  refine ⟨?_, ?_⟩
  · rw [Int.add_mul_ediv_left _ _ (by omega), Int.ediv_eq_zero_of_lt r0 r1, Int.zero_add]
  · rw [Int.add_mul_emod_self_left, Int.emod_eq_of_lt r0 r1]
theorem rndF_near (q r d m : Int) : rndF q r d m = q ∨ rndF q r d m = q + 1 := by
  unfold rndF; split
  · exact .inl rfl
  · split
    · exact .inr rfl
    · exact .inl rfl
theorem far_out {n d m : Int} (hd : 0 < d) (hm : okMode m = true) (h : beyond (n / d) 1001 = true) : beyond (quot (n * 1000000) d m) 1000000000 = true := by
  have h1 := rndF_near (n * 1000000 / d) (n * 1000000 % d) d m
  rw [quot_floor hd hm] at h1
  have h2 := (steps_of (n := n) hd).1
  have a0 := Int.ediv_nonneg (show 0 ≤ n % d * 1000 by have := Int.emod_nonneg n (show d ≠ 0 by omega); omega) (show 0 ≤ d by omega)
  have a1 : n % d * 1000 / d < 1000 := Int.ediv_lt_of_lt_mul hd (by have := Int.emod_lt_of_pos n hd; omega)
  have b0 := Int.ediv_nonneg (show 0 ≤ n % d * 1000 % d * 1000 by have := Int.emod_nonneg (n % d * 1000) (show d ≠ 0 by omega); omega) (show 0 ≤ d by omega)
  have b1 : n % d * 1000 % d * 1000 / d < 1000 := Int.ediv_lt_of_lt_mul hd (by have := Int.emod_lt_of_pos (n % d * 1000) hd; omega)
  unfold beyond at h ⊢
  simp only [Bool.or_eq_true, decide_eq_true_eq] at h ⊢
  omega

set_option maxRecDepth 4000 in
set_option maxHeartbeats 2000000 in
theorem rFromRatio_is (n d m x k : Int) (w : World) (h : rateR n d m = (x, k)) :
    Calls Try.prog 10 #[.int .i64 n, .int .i64 d, .int .i64 m] w fun e w' => e = .returned (.tuple #[.int .i64 x, .int .i64 k]) ∧ w = w' := by
  unfold rateR at h
  cases hm : okMode m
  · rw [hm, if_pos (by decide)] at h
    cases h
    rcases mode_no hm with hm | hm
    · go_enter Try.func10, Try.ntmps10
      go_wp2
      go_ret2
      exact ⟨rfl, rfl⟩
    · have hm0 : ¬ m < 0 := by omega
      go_enter Try.func10, Try.ntmps10
      go_wp2
      go_ret2
      exact ⟨rfl, rfl⟩
  · rw [hm, if_neg (by decide)] at h
    obtain ⟨m0, m5⟩ := mode_yes hm
    have HM := Lib.hid hm
    clear hm
    by_cases hd : d = 0
    · rw [if_pos hd] at h
      cases h
      subst hd
      go_enter Try.func10, Try.ntmps10
      go_wp2
      go_ret2
      exact ⟨rfl, rfl⟩
    · rw [if_neg hd] at h
      have hdd : (d == 0) = false := by simpa using hd
      cases hb1 : beyond n 1000000000000000
      · cases hb2 : beyond d 1000000000000000
        · rw [hb1, hb2, if_neg (by decide)] at h
          obtain ⟨n0, n1⟩ := beyond_in hb1
          obtain ⟨d0, d1⟩ := beyond_in hb2
          have HB1 := Lib.hid hb1
          have HB2 := Lib.hid hb2
          clear hb1 hb2
          by_cases hneg : d < 0
          · obtain ⟨nn, hnn⟩ : ∃ nn, -n = nn := ⟨_, rfl⟩
            obtain ⟨dd, hdn⟩ : ∃ dd, -d = dd := ⟨_, rfl⟩
            have x1 : wrap64 (-n) = nn := by rw [hnn]; exact IntWalk.wrap64_in nn ⟨by omega, by omega⟩
            have x2 : IntKind.i64.wrap (-n) = nn := by rw [hnn]; exact i64_in (by omega) (by omega)
            have x3 : wrap64 (-d) = dd := by rw [hdn]; exact IntWalk.wrap64_in dd ⟨by omega, by omega⟩
            have x4 : IntKind.i64.wrap (-d) = dd := by rw [hdn]; exact i64_in (by omega) (by omega)
            have nn0 : -1000000000000000 ≤ nn := by omega
            have nn1 : nn ≤ 1000000000000000 := by omega
            have dd0 : 0 < dd := by omega
            have dd1 : dd ≤ 1000000000000000 := by omega
            have hd0 : (dd == 0) = false := by simp; omega
            rw [← quot_flip (n * 1000000) d m hd, show -(n * 1000000) = nn * 1000000 by omega, hdn] at h
            clear hnn hdn hd
            obtain ⟨q, hq⟩ : ∃ q, nn / dd = q := ⟨_, rfl⟩
            obtain ⟨r, hr⟩ : ∃ r, nn % dd = r := ⟨_, rfl⟩
            have r0 : 0 ≤ r := by rw [← hr]; exact Int.emod_nonneg _ (by omega)
            have r1 : r < dd := by rw [← hr]; exact Int.emod_lt_of_pos _ (by omega)
            cases hbq : beyond q 1001
            · have qb := beyond_in hbq
              have hst := steps_of (n := nn) (d := dd) (by omega)
              have hqf := quot_floor (n := nn * 1000000) (d := dd) (m := m) (by omega) HM.out
              rw [← hst.1, ← hst.2, hq, hr] at hqf
              obtain ⟨s, hs⟩ : ∃ s, r * 1000 = s := ⟨_, rfl⟩
              rw [hs] at hqf
              obtain ⟨a, ha⟩ : ∃ a, s / dd = a := ⟨_, rfl⟩
              obtain ⟨r2, hr2⟩ : ∃ r2, s % dd = r2 := ⟨_, rfl⟩
              have a0 : 0 ≤ a := by rw [← ha]; exact Int.ediv_nonneg (by omega) (by omega)
              have a1 : a < 1000 := by rw [← ha]; exact Int.ediv_lt_of_lt_mul (by omega) (by omega)
              have r20 : 0 ≤ r2 := by rw [← hr2]; exact Int.emod_nonneg _ (by omega)
              have r21 : r2 < dd := by rw [← hr2]; exact Int.emod_lt_of_pos _ (by omega)
              rw [ha, hr2] at hqf
              obtain ⟨s2, hs2⟩ : ∃ s2, r2 * 1000 = s2 := ⟨_, rfl⟩
              rw [hs2] at hqf
              obtain ⟨b, hbb⟩ : ∃ b, s2 / dd = b := ⟨_, rfl⟩
              obtain ⟨r3, hr3⟩ : ∃ r3, s2 % dd = r3 := ⟨_, rfl⟩
              have b0 : 0 ≤ b := by rw [← hbb]; exact Int.ediv_nonneg (by omega) (by omega)
              have b1 : b < 1000 := by rw [← hbb]; exact Int.ediv_lt_of_lt_mul (by omega) (by omega)
              have r30 : 0 ≤ r3 := by rw [← hr3]; exact Int.emod_nonneg _ (by omega)
              have r31 : r3 < dd := by rw [← hr3]; exact Int.emod_lt_of_pos _ (by omega)
              rw [hbb, hr3] at hqf
              have e1 : s.tdiv dd = a := by rw [tdiv_of (by omega), ha]
              have e2 : s.tmod dd = r2 := by rw [tmod_of (by omega), hr2]
              have e3 : s2.tdiv dd = b := by rw [tdiv_of (by omega), hbb]
              have e4 : s2.tmod dd = r3 := by rw [tmod_of (by omega), hr3]
              have w1 : wrap64 (r * 1000) = s := by rw [hs]; exact IntWalk.wrap64_in s ⟨by omega, by omega⟩
              have w2 : wrap64 (r2 * 1000) = s2 := by rw [hs2]; exact IntWalk.wrap64_in s2 ⟨by omega, by omega⟩
              have w3 : wrap64 a = a := IntWalk.wrap64_in a ⟨by omega, by omega⟩
              have w4 : wrap64 b = b := IntWalk.wrap64_in b ⟨by omega, by omega⟩
              have v1 : IntKind.i64.wrap (r * 1000) = s := by rw [hs]; exact i64_in (by omega) (by omega)
              have v2 : IntKind.i64.wrap (r2 * 1000) = s2 := by rw [hs2]; exact i64_in (by omega) (by omega)
              obtain ⟨q0, q1⟩ := qb
              obtain ⟨z, hz⟩ : ∃ z, quot (nn * 1000000) dd m = z := ⟨_, rfl⟩
              rw [hz] at hqf h
              have HF := Lib.hid (fun W => rRounded3_is (q * 1000000 + a * 1000 + b) r3 dd m z W (by omega) (by omega) r30 r31 (by omega) HM.out hqf)
              have HBQ := Lib.hid hbq
              have HQR := Lib.hid (And.intro hq hr)
              clear hbq hst hqf hq hr hs ha hr2 hs2 hbb hr3 hz r20 r21 r30 r31
              cases hb : beyond z 1000000000
              · rw [hb, if_neg (by decide)] at h
                cases h
                have HB := Lib.hid hb
                clear hb
                go_enter Try.func10, Try.ntmps10
                go_wp2_with (first
                  | (go_at_call 24; (with_reducible refine (rBeyond3_is n _ false _ (by decide) (by decide) HB1.out).mono ?_); rintro e w' ⟨rfl, rfl⟩)
                  | (go_at_call 24; (with_reducible refine (rBeyond3_is d _ false _ (by decide) (by decide) HB2.out).mono ?_); rintro e w' ⟨rfl, rfl⟩)
                  | (go_at_call 25; (with_reducible refine (rFloor_is nn dd q r _ (by omega) (by omega) (by omega) (by omega) HQR.out.1 HQR.out.2).mono ?_); rintro e w' ⟨rfl, rfl⟩)
                  | (go_at_call 24; (with_reducible refine (rBeyond3_is q _ false _ (by decide) (by decide) HBQ.out).mono ?_); rintro e w' ⟨rfl, rfl⟩)
                  | (go_at_call 26; (with_reducible refine (HF.out _).mono ?_); rintro e w' ⟨rfl, rfl⟩)
                  | (go_at_call 24; (with_reducible refine (rBeyond3_is x _ false _ (by decide) (by decide) HB.out).mono ?_); rintro e w' ⟨rfl, rfl⟩)
                  | fail)
                go_ret2
                exact ⟨rfl, rfl⟩
              · rw [hb, if_pos rfl] at h
                cases h
                have HB := Lib.hid hb
                clear hb
                go_enter Try.func10, Try.ntmps10
                go_wp2_with (first
                  | (go_at_call 24; (with_reducible refine (rBeyond3_is n _ false _ (by decide) (by decide) HB1.out).mono ?_); rintro e w' ⟨rfl, rfl⟩)
                  | (go_at_call 24; (with_reducible refine (rBeyond3_is d _ false _ (by decide) (by decide) HB2.out).mono ?_); rintro e w' ⟨rfl, rfl⟩)
                  | (go_at_call 25; (with_reducible refine (rFloor_is nn dd q r _ (by omega) (by omega) (by omega) (by omega) HQR.out.1 HQR.out.2).mono ?_); rintro e w' ⟨rfl, rfl⟩)
                  | (go_at_call 24; (with_reducible refine (rBeyond3_is q _ false _ (by decide) (by decide) HBQ.out).mono ?_); rintro e w' ⟨rfl, rfl⟩)
                  | (go_at_call 26; (with_reducible refine (HF.out _).mono ?_); rintro e w' ⟨rfl, rfl⟩)
                  | (go_at_call 24; (with_reducible refine (rBeyond3_is z _ true _ (by decide) (by decide) HB.out).mono ?_); rintro e w' ⟨rfl, rfl⟩)
                  | fail)
                go_ret2
                exact ⟨rfl, rfl⟩
            · have hfar := far_out (n := nn) (d := dd) (m := m) (by omega) HM.out (by rw [hq]; exact hbq)
              rw [hfar, if_pos rfl] at h
              cases h
              have HBQ := Lib.hid hbq
              have HQR := Lib.hid (And.intro hq hr)
              clear hfar hbq hq hr
              go_enter Try.func10, Try.ntmps10
              go_wp2_with (first
                | (go_at_call 24; (with_reducible refine (rBeyond3_is n _ false _ (by decide) (by decide) HB1.out).mono ?_); rintro e w' ⟨rfl, rfl⟩)
                | (go_at_call 24; (with_reducible refine (rBeyond3_is d _ false _ (by decide) (by decide) HB2.out).mono ?_); rintro e w' ⟨rfl, rfl⟩)
                | (go_at_call 25; (with_reducible refine (rFloor_is nn dd q r _ (by omega) (by omega) (by omega) (by omega) HQR.out.1 HQR.out.2).mono ?_); rintro e w' ⟨rfl, rfl⟩)
                | (go_at_call 24; (with_reducible refine (rBeyond3_is q _ true _ (by decide) (by decide) HBQ.out).mono ?_); rintro e w' ⟨rfl, rfl⟩)
                | fail)
              go_ret2
              exact ⟨rfl, rfl⟩
          · have dpos : 0 < d := by omega
            clear hd
            obtain ⟨q, hq⟩ : ∃ q, n / d = q := ⟨_, rfl⟩
            obtain ⟨r, hr⟩ : ∃ r, n % d = r := ⟨_, rfl⟩
            have r0 : 0 ≤ r := by rw [← hr]; exact Int.emod_nonneg _ (by omega)
            have r1 : r < d := by rw [← hr]; exact Int.emod_lt_of_pos _ (by omega)
            cases hbq : beyond q 1001
            · have qb := beyond_in hbq
              have hst := steps_of (n := n) (d := d) (by omega)
              have hqf := quot_floor (n := n * 1000000) (d := d) (m := m) (by omega) HM.out
              rw [← hst.1, ← hst.2, hq, hr] at hqf
              obtain ⟨s, hs⟩ : ∃ s, r * 1000 = s := ⟨_, rfl⟩
              rw [hs] at hqf
              obtain ⟨a, ha⟩ : ∃ a, s / d = a := ⟨_, rfl⟩
              obtain ⟨r2, hr2⟩ : ∃ r2, s % d = r2 := ⟨_, rfl⟩
              have a0 : 0 ≤ a := by rw [← ha]; exact Int.ediv_nonneg (by omega) (by omega)
              have a1 : a < 1000 := by rw [← ha]; exact Int.ediv_lt_of_lt_mul (by omega) (by omega)
              have r20 : 0 ≤ r2 := by rw [← hr2]; exact Int.emod_nonneg _ (by omega)
              have r21 : r2 < d := by rw [← hr2]; exact Int.emod_lt_of_pos _ (by omega)
              rw [ha, hr2] at hqf
              obtain ⟨s2, hs2⟩ : ∃ s2, r2 * 1000 = s2 := ⟨_, rfl⟩
              rw [hs2] at hqf
              obtain ⟨b, hbb⟩ : ∃ b, s2 / d = b := ⟨_, rfl⟩
              obtain ⟨r3, hr3⟩ : ∃ r3, s2 % d = r3 := ⟨_, rfl⟩
              have b0 : 0 ≤ b := by rw [← hbb]; exact Int.ediv_nonneg (by omega) (by omega)
              have b1 : b < 1000 := by rw [← hbb]; exact Int.ediv_lt_of_lt_mul (by omega) (by omega)
              have r30 : 0 ≤ r3 := by rw [← hr3]; exact Int.emod_nonneg _ (by omega)
              have r31 : r3 < d := by rw [← hr3]; exact Int.emod_lt_of_pos _ (by omega)
              rw [hbb, hr3] at hqf
              have e1 : s.tdiv d = a := by rw [tdiv_of (by omega), ha]
              have e2 : s.tmod d = r2 := by rw [tmod_of (by omega), hr2]
              have e3 : s2.tdiv d = b := by rw [tdiv_of (by omega), hbb]
              have e4 : s2.tmod d = r3 := by rw [tmod_of (by omega), hr3]
              have w1 : wrap64 (r * 1000) = s := by rw [hs]; exact IntWalk.wrap64_in s ⟨by omega, by omega⟩
              have w2 : wrap64 (r2 * 1000) = s2 := by rw [hs2]; exact IntWalk.wrap64_in s2 ⟨by omega, by omega⟩
              have w3 : wrap64 a = a := IntWalk.wrap64_in a ⟨by omega, by omega⟩
              have w4 : wrap64 b = b := IntWalk.wrap64_in b ⟨by omega, by omega⟩
              have v1 : IntKind.i64.wrap (r * 1000) = s := by rw [hs]; exact i64_in (by omega) (by omega)
              have v2 : IntKind.i64.wrap (r2 * 1000) = s2 := by rw [hs2]; exact i64_in (by omega) (by omega)
              obtain ⟨q0, q1⟩ := qb
              obtain ⟨z, hz⟩ : ∃ z, quot (n * 1000000) d m = z := ⟨_, rfl⟩
              rw [hz] at hqf h
              have HF := Lib.hid (fun W => rRounded3_is (q * 1000000 + a * 1000 + b) r3 d m z W (by omega) (by omega) r30 r31 (by omega) HM.out hqf)
              have HBQ := Lib.hid hbq
              have HQR := Lib.hid (And.intro hq hr)
              clear hbq hst hqf hq hr hs ha hr2 hs2 hbb hr3 hz r20 r21 r30 r31
              cases hb : beyond z 1000000000
              · rw [hb, if_neg (by decide)] at h
                cases h
                have HB := Lib.hid hb
                clear hb
                go_enter Try.func10, Try.ntmps10
                go_wp2_with (first
                  | (go_at_call 24; (with_reducible refine (rBeyond3_is n _ false _ (by decide) (by decide) HB1.out).mono ?_); rintro e w' ⟨rfl, rfl⟩)
                  | (go_at_call 24; (with_reducible refine (rBeyond3_is d _ false _ (by decide) (by decide) HB2.out).mono ?_); rintro e w' ⟨rfl, rfl⟩)
                  | (go_at_call 25; (with_reducible refine (rFloor_is n d q r _ (by omega) (by omega) (by omega) (by omega) HQR.out.1 HQR.out.2).mono ?_); rintro e w' ⟨rfl, rfl⟩)
                  | (go_at_call 24; (with_reducible refine (rBeyond3_is q _ false _ (by decide) (by decide) HBQ.out).mono ?_); rintro e w' ⟨rfl, rfl⟩)
                  | (go_at_call 26; (with_reducible refine (HF.out _).mono ?_); rintro e w' ⟨rfl, rfl⟩)
                  | (go_at_call 24; (with_reducible refine (rBeyond3_is x _ false _ (by decide) (by decide) HB.out).mono ?_); rintro e w' ⟨rfl, rfl⟩)
                  | fail)
                go_ret2
                exact ⟨rfl, rfl⟩
              · rw [hb, if_pos rfl] at h
                cases h
                have HB := Lib.hid hb
                clear hb
                go_enter Try.func10, Try.ntmps10
                go_wp2_with (first
                  | (go_at_call 24; (with_reducible refine (rBeyond3_is n _ false _ (by decide) (by decide) HB1.out).mono ?_); rintro e w' ⟨rfl, rfl⟩)
                  | (go_at_call 24; (with_reducible refine (rBeyond3_is d _ false _ (by decide) (by decide) HB2.out).mono ?_); rintro e w' ⟨rfl, rfl⟩)
                  | (go_at_call 25; (with_reducible refine (rFloor_is n d q r _ (by omega) (by omega) (by omega) (by omega) HQR.out.1 HQR.out.2).mono ?_); rintro e w' ⟨rfl, rfl⟩)
                  | (go_at_call 24; (with_reducible refine (rBeyond3_is q _ false _ (by decide) (by decide) HBQ.out).mono ?_); rintro e w' ⟨rfl, rfl⟩)
                  | (go_at_call 26; (with_reducible refine (HF.out _).mono ?_); rintro e w' ⟨rfl, rfl⟩)
                  | (go_at_call 24; (with_reducible refine (rBeyond3_is z _ true _ (by decide) (by decide) HB.out).mono ?_); rintro e w' ⟨rfl, rfl⟩)
                  | fail)
                go_ret2
                exact ⟨rfl, rfl⟩
            · have hfar := far_out (n := n) (d := d) (m := m) (by omega) HM.out (by rw [hq]; exact hbq)
              rw [hfar, if_pos rfl] at h
              cases h
              have HBQ := Lib.hid hbq
              have HQR := Lib.hid (And.intro hq hr)
              clear hfar hbq hq hr
              go_enter Try.func10, Try.ntmps10
              go_wp2_with (first
                | (go_at_call 24; (with_reducible refine (rBeyond3_is n _ false _ (by decide) (by decide) HB1.out).mono ?_); rintro e w' ⟨rfl, rfl⟩)
                | (go_at_call 24; (with_reducible refine (rBeyond3_is d _ false _ (by decide) (by decide) HB2.out).mono ?_); rintro e w' ⟨rfl, rfl⟩)
                | (go_at_call 25; (with_reducible refine (rFloor_is n d q r _ (by omega) (by omega) (by omega) (by omega) HQR.out.1 HQR.out.2).mono ?_); rintro e w' ⟨rfl, rfl⟩)
                | (go_at_call 24; (with_reducible refine (rBeyond3_is q _ true _ (by decide) (by decide) HBQ.out).mono ?_); rintro e w' ⟨rfl, rfl⟩)
                | fail)
              go_ret2
              exact ⟨rfl, rfl⟩
        · rw [hb1, hb2, if_pos (by decide)] at h
          cases h
          have HB1 := Lib.hid hb1
          have HB2 := Lib.hid hb2
          clear hb1 hb2
          go_enter Try.func10, Try.ntmps10
          go_wp2_with (first
            | (go_at_call 24; (with_reducible refine (rBeyond3_is n _ false _ (by decide) (by decide) HB1.out).mono ?_); rintro e w' ⟨rfl, rfl⟩)
            | (go_at_call 24; (with_reducible refine (rBeyond3_is d _ true _ (by decide) (by decide) HB2.out).mono ?_); rintro e w' ⟨rfl, rfl⟩)
            | fail)
          go_ret2
          exact ⟨rfl, rfl⟩
      · rw [hb1, Bool.true_or, if_pos rfl] at h
        cases h
        have HB1 := Lib.hid hb1
        clear hb1
        go_enter Try.func10, Try.ntmps10
        go_wp2_with (first
          | (go_at_call 24; (with_reducible refine (rBeyond3_is n _ true _ (by decide) (by decide) HB1.out).mono ?_); rintro e w' ⟨rfl, rfl⟩)
          | fail)
        go_ret2
        exact ⟨rfl, rfl⟩
end Go.Proofs.Ytnboimaocmeojaa.money
