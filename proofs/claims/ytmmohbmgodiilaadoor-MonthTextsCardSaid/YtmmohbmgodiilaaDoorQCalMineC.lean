/-
  What package date's FromYMD and ToYMD answer.
-/
import Derived.Test.YtmmohbmgodiilaaDoorQCalMineB
namespace Go.Proofs.YtmmohbmgodiilaaDoor.cal
open Go Go.RowKit Go.Proofs.YtmmohbmgodiilaaDoor.money
set_option linter.unusedVariables false

set_option maxHeartbeats 1000000 in
theorem mFromYMD_is (y m d a c : Int) (w : World) (he : Env w) (h : fromR y m d = (a, c)) : Calls Tryd.prog 23 #[.int .i64 y, .int .i64 m, .int .i64 d] w fun e w' => e = .returned (.tuple #[.int .i64 a, .int .i64 c]) ∧ w = w' := by
  unfold fromR at h
  obtain ⟨x, hx⟩ : ∃ x, dim y m = x := ⟨_, rfl⟩
  have HX := Lib.hid hx
  by_cases e1 : y < 1900
  · rw [if_pos (.inl e1)] at h
    cases h
    clear hx
    go_enter Tryd.func23, Tryd.ntmps23
    go_wp2
    go_ret2
    exact ⟨rfl, rfl⟩
  · by_cases e2 : 2199 < y
    · rw [if_pos (.inr (.inl e2))] at h
      cases h
      have e2' : 2200 ≤ y := by omega
      clear hx
      go_enter Tryd.func23, Tryd.ntmps23
      go_wp2
      go_ret2
      exact ⟨rfl, rfl⟩
    · have e2' : ¬ 2200 ≤ y := by omega
      by_cases e3 : d < 1
      · rw [if_pos (.inr (.inr (.inl e3)))] at h
        cases h
        clear hx
        go_enter Tryd.func23, Tryd.ntmps23
        go_wp2
        go_ret2
        exact ⟨rfl, rfl⟩
      · rw [hx] at h
        by_cases e4 : x < d
        · rw [if_pos (.inr (.inr (.inr e4)))] at h
          cases h
          clear hx
          go_enter Tryd.func23, Tryd.ntmps23
          go_wp2_with (go_at_call 24; refine (mDaysInMonth_is y m x _ he HX.out).mono ?_; rintro e w' ⟨rfl, rfl⟩)
          go_ret2
          exact ⟨rfl, rfl⟩
        · rw [if_neg (by omega)] at h
          obtain ⟨ha, rfl⟩ := Prod.mk.inj h
          have hd := dim_bd y m
          have hm := dim_out (y := y) (m := m) (by omega)
          rw [hx] at hd
          obtain ⟨m0, m1⟩ := hm
          obtain ⟨-, d31⟩ := hd
          obtain ⟨p, hp⟩ : ∃ p, dby (y - 1900).toNat = p := ⟨_, rfl⟩
          obtain ⟨q, hq⟩ : ∃ q, cum y (m - 1).toNat = q := ⟨_, rfl⟩
          have bp := dby_top (k := (y - 1900).toNat) (by omega)
          have bq := cum_top (y := y) (j := (m - 1).toNat) (by omega)
          rw [hp] at bp
          rw [hq] at bq
          rw [hp, hq] at ha
          obtain ⟨p0, p1⟩ := bp
          obtain ⟨q0, q1⟩ := bq
          have HA := Lib.hid ha
          have HP := Lib.hid hp
          have HQ := Lib.hid hq
          clear h ha hx hp hq
          go_enter Tryd.func23, Tryd.ntmps23
          go_wp2_with (first
            | (go_at_call 24; refine (mDaysInMonth_is y m x _ he HX.out).mono ?_; rintro e w' ⟨rfl, rfl⟩)
            | (go_at_call 40; refine (mBeforeYear_is (y - 1900).toNat y p _ (by omega) (by omega) HP.out).mono ?_; rintro e w' ⟨rfl, rfl⟩)
            | (go_at_call 41; refine (mBeforeMonth_is (m - 1).toNat y m q _ he (by omega) (by omega) HQ.out).mono ?_; rintro e w' ⟨rfl, rfl⟩)
            | fail)
          go_ret2
          exact ⟨ret_two (by have := HA.out; omega) rfl, rfl⟩

theorem ret_three {a b c a' b' c' : Int} (h : a = a') (h' : b = b') (h'' : c = c') : Ending.returned (.tuple #[.int .i64 a, .int .i64 b, .int .i64 c]) = Ending.returned (.tuple #[.int .i64 a', .int .i64 b', .int .i64 c']) := by rw [h, h', h'']

set_option maxHeartbeats 1000000 in
theorem mToYMD_is (n y m d : Int) (w : World) (he : Env w) (h : toR n = (y, m, d)) : Calls Tryd.prog 27 #[.int .i64 n] w fun e w' => e = .returned (.tuple #[.int .i64 y, .int .i64 m, .int .i64 d]) ∧ w = w' := by
  unfold toR at h
  cases hv : okD n
  · rw [hv, if_neg (by decide)] at h
    cases h
    have HV := Lib.hid hv
    clear hv
    go_enter Tryd.func27, Tryd.ntmps27
    go_wp2_with (go_at_call 44; refine (mIsDate_is n false _ HV.out).mono ?_; rintro e w' ⟨rfl, rfl⟩)
    go_ret3
    exact ⟨rfl, rfl⟩
  · rw [hv, if_pos rfl] at h
    simp only [Prod.mk.injEq] at h
    obtain ⟨hy, hm, hd⟩ := h
    have I := Is.of n hv
    obtain ⟨t, ht⟩ : ∃ t, n - dby (kOf n) = t := ⟨_, rfl⟩
    obtain ⟨r, hr⟩ : ∃ r, dOf n - 1 = r := ⟨_, rfl⟩
    have b1 := I.rest
    have b2 := diy_bd (1900 + (kOf n : Int))
    have d0 := I.d0
    have d1 := I.d1
    have d2 := dim_bd (1900 + (kOf n : Int)) ((jOf n : Int) + 1)
    have r0 : 0 ≤ r := by omega
    have r1 : r ≤ 31 := by omega
    have HV := Lib.hid hv
    have H := Lib.hid (And.intro hy (And.intro hm (And.intro hd (And.intro ht hr))))
    clear hv hy hm hd ht hr I b1 b2 d0 d1 d2
    go_enter Tryd.func27, Tryd.ntmps27
    go_wp2_with (first
      | (go_at_call 44; refine (mIsDate_is n true _ HV.out).mono ?_; rintro e w' ⟨rfl, rfl⟩)
      | (go_at_call 45; refine (mSplitYear_is n y t _ HV.out H.out.1 H.out.2.2.2.1).mono ?_; rintro e w' ⟨rfl, rfl⟩)
      | (go_at_call 46; refine (mSplitMonth_is n y t m r _ he HV.out H.out.1.symm H.out.2.2.2.1.symm H.out.2.1 H.out.2.2.2.2).mono ?_; rintro e w' ⟨rfl, rfl⟩)
      | fail)
    go_ret3
    exact ⟨ret_three rfl rfl (by have := H.out; omega), rfl⟩
end Go.Proofs.YtmmohbmgodiilaaDoor.cal
