/-
  What package date's FromYMD, ToYMD, AddMonths and YearsBetween answer.
-/
import Derived.Test.YtjjnlihokcddbaaDoorCalMineB
import Derived.Test.YtjjnlihokcddbaaDoorCalAdd
import Derived.Test.YtjjnlihokcddbaaDoorCalMore
namespace Go.Proofs.YtjjnlihokcddbaaDoor.cal
open Go Go.RowKit Go.Proofs.YtjjnlihokcddbaaDoor.money
set_option linter.unusedVariables false

set_option maxHeartbeats 1000000 in
theorem mFromYMD_is (y m d a c : Int) (w : World) (he : Env w) (h : fromR y m d = (a, c)) : Calls Tryd.prog 8 #[.int .i64 y, .int .i64 m, .int .i64 d] w fun e w' => e = .returned (.tuple #[.int .i64 a, .int .i64 c]) ∧ w = w' := by
  unfold fromR at h
  obtain ⟨x, hx⟩ : ∃ x, dim y m = x := ⟨_, rfl⟩
  have HX := Lib.hid hx
  by_cases e1 : y < 1900
  · rw [if_pos (.inl e1)] at h
    cases h
    clear hx
    go_enter Tryd.func8, Tryd.ntmps8
    go_wp2
    go_ret2
    exact ⟨rfl, rfl⟩
  · by_cases e2 : 2199 < y
    · rw [if_pos (.inr (.inl e2))] at h
      cases h
      have e2' : 2200 ≤ y := by omega
      clear hx
      go_enter Tryd.func8, Tryd.ntmps8
      go_wp2
      go_ret2
      exact ⟨rfl, rfl⟩
    · have e2' : ¬ 2200 ≤ y := by omega
      by_cases e3 : d < 1
      · rw [if_pos (.inr (.inr (.inl e3)))] at h
        cases h
        clear hx
        go_enter Tryd.func8, Tryd.ntmps8
        go_wp2
        go_ret2
        exact ⟨rfl, rfl⟩
      · rw [hx] at h
        by_cases e4 : x < d
        · rw [if_pos (.inr (.inr (.inr e4)))] at h
          cases h
          clear hx
          go_enter Tryd.func8, Tryd.ntmps8
          go_wp2_with (go_at_call 14; refine (mDaysInMonth_is y m x _ he HX.out).mono ?_; rintro e w' ⟨rfl, rfl⟩)
          go_ret2
          exact ⟨rfl, rfl⟩
        · rw [if_neg (by omega)] at h
          obtain ⟨ha, rfl⟩ := Prod.mk.inj h
          have hd := dim_bd y m
          have hm := dim_out (y := y) (m := m) (by omega)
          rw [hx] at hd
          obtain ⟨m0, m1⟩ := hm
          obtain ⟨-, d31⟩ := hd
          obtain ⟨p, hp⟩ : ∃ p, dby (y - 1900).toNat = p := ⟨_, rfl⟩
          obtain ⟨q, hq⟩ : ∃ q, cum y (m - 1).toNat = q := ⟨_, rfl⟩
          have bp := dby_top (k := (y - 1900).toNat) (by omega)
          have bq := cum_top (y := y) (j := (m - 1).toNat) (by omega)
          rw [hp] at bp
          rw [hq] at bq
          rw [hp, hq] at ha
          obtain ⟨p0, p1⟩ := bp
          obtain ⟨q0, q1⟩ := bq
          have HA := Lib.hid ha
          have HP := Lib.hid hp
          have HQ := Lib.hid hq
          clear h ha hx hp hq
          go_enter Tryd.func8, Tryd.ntmps8
          go_wp2_with (first
            | (go_at_call 14; refine (mDaysInMonth_is y m x _ he HX.out).mono ?_; rintro e w' ⟨rfl, rfl⟩)
            | (go_at_call 27; refine (mBeforeYear_is (y - 1900).toNat y p _ (by omega) (by omega) HP.out).mono ?_; rintro e w' ⟨rfl, rfl⟩)
            | (go_at_call 28; refine (mBeforeMonth_is (m - 1).toNat y m q _ he (by omega) (by omega) HQ.out).mono ?_; rintro e w' ⟨rfl, rfl⟩)
            | fail)
          go_ret2
          exact ⟨ret_two (by have := HA.out; omega) rfl, rfl⟩

theorem ret_three {a b c a' b' c' : Int} (h : a = a') (h' : b = b') (h'' : c = c') : Ending.returned (.tuple #[.int .i64 a, .int .i64 b, .int .i64 c]) = Ending.returned (.tuple #[.int .i64 a', .int .i64 b', .int .i64 c']) := by rw [h, h', h'']

set_option maxHeartbeats 1000000 in
theorem mToYMD_is (n y m d : Int) (w : World) (he : Env w) (h : toR n = (y, m, d)) : Calls Tryd.prog 10 #[.int .i64 n] w fun e w' => e = .returned (.tuple #[.int .i64 y, .int .i64 m, .int .i64 d]) ∧ w = w' := by
  unfold toR at h
  cases hv : okD n
  · rw [hv, if_neg (by decide)] at h
    cases h
    have HV := Lib.hid hv
    clear hv
    go_enter Tryd.func10, Tryd.ntmps10
    go_wp2_with (go_at_call 30; refine (mIsDate_is n false _ HV.out).mono ?_; rintro e w' ⟨rfl, rfl⟩)
    go_ret3
    exact ⟨rfl, rfl⟩
  · rw [hv, if_pos rfl] at h
    simp only [Prod.mk.injEq] at h
    obtain ⟨hy, hm, hd⟩ := h
    have I := Is.of n hv
    obtain ⟨t, ht⟩ : ∃ t, n - dby (kOf n) = t := ⟨_, rfl⟩
    obtain ⟨r, hr⟩ : ∃ r, dOf n - 1 = r := ⟨_, rfl⟩
    have b1 := I.rest
    have b2 := diy_bd (1900 + (kOf n : Int))
    have d0 := I.d0
    have d1 := I.d1
    have d2 := dim_bd (1900 + (kOf n : Int)) ((jOf n : Int) + 1)
    have r0 : 0 ≤ r := by omega
    have r1 : r ≤ 31 := by omega
    have HV := Lib.hid hv
    have H := Lib.hid (And.intro hy (And.intro hm (And.intro hd (And.intro ht hr))))
    clear hv hy hm hd ht hr I b1 b2 d0 d1 d2
    go_enter Tryd.func10, Tryd.ntmps10
    go_wp2_with (first
      | (go_at_call 30; refine (mIsDate_is n true _ HV.out).mono ?_; rintro e w' ⟨rfl, rfl⟩)
      | (go_at_call 31; refine (mSplitYear_is n y t _ HV.out H.out.1 H.out.2.2.2.1).mono ?_; rintro e w' ⟨rfl, rfl⟩)
      | (go_at_call 32; refine (mSplitMonth_is n y t m r _ he HV.out H.out.1.symm H.out.2.2.2.1.symm H.out.2.1 H.out.2.2.2.2).mono ?_; rintro e w' ⟨rfl, rfl⟩)
      | fail)
    go_ret3
    exact ⟨ret_three rfl rfl (by have := H.out; omega), rfl⟩

theorem mWeekday_is (n c : Int) (w : World) (h : wkR n = c) : Calls Tryd.prog 19 #[.int .i64 n] w fun e w' => e = .returned (.int .i64 c) ∧ w = w' := by
  unfold wkR at h
  cases hv : okD n
  · rw [hv, if_neg (by decide)] at h
    subst h
    have HV := Lib.hid hv
    clear hv
    go_enter Tryd.func19, Tryd.ntmps19
    go_wp2_with (go_at_call 30; refine (mIsDate_is n false _ HV.out).mono ?_; rintro e w' ⟨rfl, rfl⟩)
    go_ret
    exact ⟨rfl, rfl⟩
  · rw [hv, if_pos rfl] at h
    obtain ⟨n0, n1⟩ := (okD_iff n).1 hv
    have HV := Lib.hid hv
    have H := Lib.hid h
    clear hv h
    go_enter Tryd.func19, Tryd.ntmps19
    go_wp2_with (go_at_call 30; refine (mIsDate_is n true _ HV.out).mono ?_; rintro e w' ⟨rfl, rfl⟩)
    go_ret
    exact ⟨ret_int (by rw [← H.out]), rfl⟩

set_option maxRecDepth 4000 in
set_option maxHeartbeats 2000000 in
theorem mAddMonths_is (a n x c : Int) (w : World) (he : Env w) (h : addR a n = (x, c)) : Calls Tryd.prog 17 #[.int .i64 a, .int .i64 n] w fun e w' => e = .returned (.tuple #[.int .i64 x, .int .i64 c]) ∧ w = w' := by
  cases hv : okD a
  · rw [addR_bad (.inl hv)] at h
    cases h
    have HV := Lib.hid hv
    clear hv
    go_enter Tryd.func17, Tryd.ntmps17
    go_wp2_with (go_at_call 30; refine (mIsDate_is a false _ HV.out).mono ?_; rintro e w' ⟨rfl, rfl⟩)
    go_ret2
    exact ⟨rfl, rfl⟩
  · by_cases h0 : n < -3600
    · rw [addR_bad (.inr (.inl h0))] at h
      cases h
      have HV := Lib.hid hv
      clear hv
      go_enter Tryd.func17, Tryd.ntmps17
      go_wp2_with (go_at_call 30; refine (mIsDate_is a true _ HV.out).mono ?_; rintro e w' ⟨rfl, rfl⟩)
      go_ret2
      exact ⟨rfl, rfl⟩
    · by_cases h1 : 3600 < n
      · rw [addR_bad (.inr (.inr h1))] at h
        cases h
        have HV := Lib.hid hv
        clear hv
        go_enter Tryd.func17, Tryd.ntmps17
        go_wp2_with (go_at_call 30; refine (mIsDate_is a true _ HV.out).mono ?_; rintro e w' ⟨rfl, rfl⟩)
        go_ret2
        exact ⟨rfl, rfl⟩
      · obtain ⟨⟨y, m, d⟩, hto⟩ : ∃ r, toR a = r := ⟨_, rfl⟩
        obtain ⟨y0, y1, m0, m1, d0, d1, hadd⟩ := addR_parts (n := n) hv (by omega) (by omega) hto
        rw [hadd] at h
        have HV := Lib.hid hv
        have HT := Lib.hid hto
        obtain ⟨M, hM⟩ : ∃ M, (y - 1900) * 12 + m - 1 + n = M := ⟨_, rfl⟩
        have M1 : M ≤ 10000 := by omega
        have M2 : -10000 ≤ M := by omega
        by_cases hr0 : M < 0
        · have hbad : fromR ((12 * y + m - 1 + n) / 12) ((12 * y + m - 1 + n) % 12 + 1) (min d (dim ((12 * y + m - 1 + n) / 12) ((12 * y + m - 1 + n) % 12 + 1))) = (0, 3) := by
            unfold fromR; rw [if_pos (.inl (by omega))]
          rw [hbad] at h
          cases h
          clear hv hto hadd hbad
          go_enter Tryd.func17, Tryd.ntmps17
          go_wp2_with (first
            | (go_at_call 30; refine (mIsDate_is a true _ HV.out).mono ?_; rintro e w' ⟨rfl, rfl⟩)
            | (go_at_call 10; refine (mToYMD_is a y m d _ he HT.out).mono ?_; rintro e w' ⟨rfl, rfl⟩)
            | fail)
          go_ret2
          exact ⟨rfl, rfl⟩
        · by_cases hr1 : 3600 ≤ M
          · have hbad : fromR ((12 * y + m - 1 + n) / 12) ((12 * y + m - 1 + n) % 12 + 1) (min d (dim ((12 * y + m - 1 + n) / 12) ((12 * y + m - 1 + n) % 12 + 1))) = (0, 3) := by
              unfold fromR; rw [if_pos (.inr (.inl (by omega)))]
            rw [hbad] at h
            cases h
            clear hv hto hadd hbad
            go_enter Tryd.func17, Tryd.ntmps17
            go_wp2_with (first
              | (go_at_call 30; refine (mIsDate_is a true _ HV.out).mono ?_; rintro e w' ⟨rfl, rfl⟩)
              | (go_at_call 10; refine (mToYMD_is a y m d _ he HT.out).mono ?_; rintro e w' ⟨rfl, rfl⟩)
              | fail)
            go_ret2
            exact ⟨rfl, rfl⟩
          · have M0 : 0 ≤ M := by omega
            obtain ⟨Q, hQ⟩ : ∃ Q, M / 12 = Q := ⟨_, rfl⟩
            obtain ⟨R, hR⟩ : ∃ R, M % 12 = R := ⟨_, rfl⟩
            have e1 : (12 * y + m - 1 + n) / 12 = 1900 + Q := by omega
            have e2 : (12 * y + m - 1 + n) % 12 = R := by omega
            rw [e1, e2] at h
            obtain ⟨g, hg⟩ : ∃ g, dim (1900 + Q) (R + 1) = g := ⟨_, rfl⟩
            rw [hg] at h
            have R0 : 0 ≤ R ∧ R ≤ 11 := by omega
            obtain ⟨R0, R1⟩ := R0
            have Q0 : 0 ≤ Q := by omega
            have Q1 : Q ≤ 300 := by omega
            have f1 : M.tdiv 12 = Q := by rw [tdiv_of M0]; exact hQ
            have f2 : M.tmod 12 = R := by rw [tmod_of M0]; exact hR
            have f3 : wrap64 Q = Q := IntWalk.wrap64_in Q ⟨by omega, by omega⟩
            have f4 : IntKind.i64.wrap Q = Q := i64_in (by omega) (by omega)
            have f5 : M / 12 = Q := hQ
            have f6 : M % 12 = R := hR
            obtain ⟨Y, hY⟩ : ∃ Y, 1900 + Q = Y := ⟨_, rfl⟩
            obtain ⟨Z, hZ⟩ : ∃ Z, R + 1 = Z := ⟨_, rfl⟩
            rw [hY, hZ] at h hg
            have Y0 : 1900 ≤ Y := by omega
            have Y1 : Y ≤ 2200 := by omega
            have Z0 : 1 ≤ Z := by omega
            have Z1 : Z ≤ 12 := by omega
            have HG := Lib.hid hg
            have H := Lib.hid h
            clear hv hto hg h hQ hR hadd e1 e2
            go_enter Tryd.func17, Tryd.ntmps17
            go_wp2_with (first
              | (go_at_call 30; refine (mIsDate_is a true _ HV.out).mono ?_; rintro e w' ⟨rfl, rfl⟩)
              | (go_at_call 10; refine (mToYMD_is a y m d _ he HT.out).mono ?_; rintro e w' ⟨rfl, rfl⟩)
              | (go_at_call 14; refine (mDaysInMonth_is Y Z g _ he HG.out).mono ?_; rintro e w' ⟨rfl, rfl⟩)
              | (go_at_call 8; (with_reducible refine (mFromYMD_is Y Z (min d g) x c _ he H.out).mono ?_); rintro e w' ⟨rfl, rfl⟩)
              | fail)
            go_ret2
            exact ⟨rfl, rfl⟩

set_option maxRecDepth 4000 in
set_option maxHeartbeats 2000000 in
theorem mYearsBetween_is (a b r : Int) (w : World) (he : Env w) (h : ybR a b = r) : Calls Tryd.prog 21 #[.int .i64 a, .int .i64 b] w fun e w' => e = .returned (.int .i64 r) ∧ w = w' := by
  cases hv : okD a
  · obtain rfl : r = 0 := by rw [← h]; unfold ybR; rw [hv]; rfl
    have HV := Lib.hid hv
    clear hv h
    go_enter Tryd.func21, Tryd.ntmps21
    go_wp2_with (go_at_call 30; refine (mIsDate_is a false _ HV.out).mono ?_; rintro e w' ⟨rfl, rfl⟩)
    go_ret
    exact ⟨rfl, rfl⟩
  · cases hv2 : okD b
    · obtain rfl : r = 0 := by rw [← h]; unfold ybR; rw [hv, hv2]; rfl
      have HV := Lib.hid hv
      have HV2 := Lib.hid hv2
      clear hv hv2 h
      go_enter Tryd.func21, Tryd.ntmps21
      go_wp2_with (first
        | (go_at_call 30; (with_reducible refine (mIsDate_is a true _ HV.out).mono ?_); rintro e w' ⟨rfl, rfl⟩)
        | (go_at_call 30; (with_reducible refine (mIsDate_is b false _ HV2.out).mono ?_); rintro e w' ⟨rfl, rfl⟩))
      go_ret
      exact ⟨rfl, rfl⟩
    · by_cases hba : b < a
      · obtain rfl : r = 0 := by rw [← h]; exact yb_turned hba
        have HV := Lib.hid hv
        have HV2 := Lib.hid hv2
        clear hv hv2 h
        go_enter Tryd.func21, Tryd.ntmps21
        go_wp2_with (first
          | (go_at_call 30; (with_reducible refine (mIsDate_is a true _ HV.out).mono ?_); rintro e w' ⟨rfl, rfl⟩)
          | (go_at_call 30; (with_reducible refine (mIsDate_is b true _ HV2.out).mono ?_); rintro e w' ⟨rfl, rfl⟩))
        go_ret
        exact ⟨rfl, rfl⟩
      · obtain ⟨hk, x, hx, hyb⟩ := yb_by hv hv2 (by omega)
        have IA := Is.of a hv
        have IB := Is.of b hv2
        obtain ⟨ya, hya⟩ : ∃ y, 1900 + (kOf a : Int) = y := ⟨_, rfl⟩
        obtain ⟨yb, hyb'⟩ : ∃ y, 1900 + (kOf b : Int) = y := ⟨_, rfl⟩
        have ta := IA.to
        have tb := IB.to
        rw [hya] at ta
        rw [hyb'] at tb
        obtain ⟨ma, hma⟩ : ∃ y, (jOf a : Int) + 1 = y := ⟨_, rfl⟩
        obtain ⟨mb, hmb⟩ : ∃ y, (jOf b : Int) + 1 = y := ⟨_, rfl⟩
        rw [hma] at ta
        rw [hmb] at tb
        have ka := IA.k1
        have kb := IB.k1
        have y0 : 1900 ≤ ya := by omega
        have y1 : ya ≤ yb := by omega
        have y2 : yb ≤ 2199 := by omega
        rw [show (kOf b : Int) - kOf a = yb - ya by omega] at hx hyb
        have HV := Lib.hid hv
        have HV2 := Lib.hid hv2
        have HTA := Lib.hid ta
        have HTB := Lib.hid tb
        have HX := Lib.hid hx
        by_cases hbx : b < x
        · rw [if_pos hbx] at hyb
          rw [hyb] at h
          have H := Lib.hid h
          clear hv hv2 h hya hyb hyb' hma hmb ta tb hx hk IA IB ka kb
          go_enter Tryd.func21, Tryd.ntmps21
          go_wp2_with (first
            | (go_at_call 30; (with_reducible refine (mIsDate_is a true _ HV.out).mono ?_); rintro e w' ⟨rfl, rfl⟩)
            | (go_at_call 30; (with_reducible refine (mIsDate_is b true _ HV2.out).mono ?_); rintro e w' ⟨rfl, rfl⟩)
            | (go_at_call 10; (with_reducible refine (mToYMD_is a ya ma (dOf a) _ he HTA.out).mono ?_); rintro e w' ⟨rfl, rfl⟩)
            | (go_at_call 10; (with_reducible refine (mToYMD_is b yb mb (dOf b) _ he HTB.out).mono ?_); rintro e w' ⟨rfl, rfl⟩)
            | (go_at_call 17; (with_reducible refine (mAddMonths_is a (12 * (yb - ya)) x 0 _ he HX.out).mono ?_); rintro e w' ⟨rfl, rfl⟩)
            | fail)
          go_ret
          exact ⟨ret_int H.out, rfl⟩
        · rw [if_neg hbx] at hyb
          rw [hyb] at h
          have H := Lib.hid h
          clear hv hv2 h hya hyb hyb' hma hmb ta tb hx hk IA IB ka kb
          go_enter Tryd.func21, Tryd.ntmps21
          go_wp2_with (first
            | (go_at_call 30; (with_reducible refine (mIsDate_is a true _ HV.out).mono ?_); rintro e w' ⟨rfl, rfl⟩)
            | (go_at_call 30; (with_reducible refine (mIsDate_is b true _ HV2.out).mono ?_); rintro e w' ⟨rfl, rfl⟩)
            | (go_at_call 10; (with_reducible refine (mToYMD_is a ya ma (dOf a) _ he HTA.out).mono ?_); rintro e w' ⟨rfl, rfl⟩)
            | (go_at_call 10; (with_reducible refine (mToYMD_is b yb mb (dOf b) _ he HTB.out).mono ?_); rintro e w' ⟨rfl, rfl⟩)
            | (go_at_call 17; (with_reducible refine (mAddMonths_is a (12 * (yb - ya)) x 0 _ he HX.out).mono ?_); rintro e w' ⟨rfl, rfl⟩)
            | fail)
          go_ret
          exact ⟨ret_int H.out, rfl⟩
end Go.Proofs.YtjjnlihokcddbaaDoor.cal
