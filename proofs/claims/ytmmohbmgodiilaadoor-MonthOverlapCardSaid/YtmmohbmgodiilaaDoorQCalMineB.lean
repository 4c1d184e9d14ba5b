/-
  What package date's loops answer: daysBeforeYear, daysBeforeMonth, splitYear, splitMonth.
-/
import Derived.Test.YtmmohbmgodiilaaDoorQCalMineA
import Derived.Test.YtmmohbmgodiilaaDoorQCalFrom
import Derived.Test.YtmmohbmgodiilaaDoorQCalTo
import Derived.LoopTactic
namespace Go.Proofs.YtmmohbmgodiilaaDoor.cal
open Go Go.RowKit Go.Proofs.YtmmohbmgodiilaaDoor.money
set_option linter.unusedVariables false

set_option maxHeartbeats 1000000 in
theorem mBeforeYear_is (k : Nat) (y c : Int) (w : World) (hk : k < 300) (hy : y = 1900 + k) (h : dby k = c) : Calls Tryd.prog 40 #[.int .i64 y] w fun e w' => e = .returned (.int .i64 c) ∧ w = w' := by
  have H := Lib.hid h
  have HY := Lib.hid hy
  have y0 : 1900 ≤ y := by omega
  have y1 : y ≤ 2199 := by omega
  clear h hy
  go_enter Tryd.func40, Tryd.ntmps40
  go_wp2
  go_loop [3, 7] (fun vt vi => ∃ (i : Nat) (t : Int), i ≤ k ∧ vi = .int .i64 i ∧ vt = .int .i64 t ∧ 0 ≤ t ∧ t ≤ 110000 ∧ Hid (t = dby i)) (fun _ vi => k - (intOf vi).toNat)
  case atStart => exact ⟨0, 0, Nat.zero_le _, rfl, rfl, by omega, by omega, (show _ from rfl)⟩
  case round =>
    obtain ⟨i, t, hi, rfl, rfl, t0, t1, HT⟩ := hrel
    by_cases hlt : i < k
    · obtain ⟨g, hg⟩ : ∃ g, diy (1900 + (i : Int)) = g := ⟨_, rfl⟩
      have hgb := diy_bd (1900 + (i : Int))
      rw [hg] at hgb
      obtain ⟨hg0, hg1⟩ := hgb
      have htop := dby_top (k := i + 1) (by omega)
      rw [dby_step, hg] at htop
      have htn := HT.out
      have hti : (i : Int) < y - 1900 := by have := HY.out; omega
      have tg : t + g ≤ 110000 := by omega
      have HT2 : Hid (t + g = dby (i + 1)) := by show _ = _; rw [dby_step, hg]; omega
      have HG := Lib.hid hg
      clear hg htn htop
      go_wp2_with (go_at_call 56; refine (mDaysInYear_is (1900 + (i : Int)) g _ HG.out).mono ?_; rintro e w' ⟨rfl, rfl⟩)
      go_round
      case rel => exact ⟨i + 1, t + g, by omega, by go_num, rfl, by omega, tg, HT2⟩
      case measure => simp [intOf]; omega
    · obtain rfl : i = k := by omega
      have hti : ¬ (i : Int) < y - 1900 := by have := HY.out; omega
      go_wp2
      go_ret
      exact ⟨ret_int (by rw [← H.out]; exact HT.out), rfl⟩

set_option maxHeartbeats 1000000 in
theorem mBeforeMonth_is (j : Nat) (y m c : Int) (w : World) (he : Env w) (hj : j < 12) (hm : m = j + 1) (h : cum y j = c) : Calls Tryd.prog 41 #[.int .i64 y, .int .i64 m] w fun e w' => e = .returned (.int .i64 c) ∧ w = w' := by
  have H := Lib.hid h
  have HM := Lib.hid hm
  have m0 : 1 ≤ m := by omega
  have m1 : m ≤ 12 := by omega
  clear h hm
  go_enter Tryd.func41, Tryd.ntmps41
  go_wp2
  go_loop [5, 9] (fun vt vi => ∃ (i : Nat) (t : Int), i ≤ j ∧ vi = .int .i64 i ∧ vt = .int .i64 t ∧ 0 ≤ t ∧ t ≤ 400 ∧ Hid (t = cum y i)) (fun _ vi => j - (intOf vi).toNat)
  case atStart => exact ⟨0, 0, Nat.zero_le _, rfl, rfl, by omega, by omega, (show _ from rfl)⟩
  case round =>
    obtain ⟨i, t, hi, rfl, rfl, t0, t1, HT⟩ := hrel
    by_cases hlt : i < j
    · obtain ⟨g, hg⟩ : ∃ g, dim y ((i : Int) + 1) = g := ⟨_, rfl⟩
      have hgb := dim_bd y ((i : Int) + 1)
      rw [hg] at hgb
      obtain ⟨hg0, hg1⟩ := hgb
      have htop := cum_top (y := y) (j := i + 1) (by omega)
      rw [cum_step, hg] at htop
      have htn := HT.out
      have hti : (i : Int) < m - 1 := by have := HM.out; omega
      have tg : t + g ≤ 400 := by omega
      have HT2 : Hid (t + g = cum y (i + 1)) := by show _ = _; rw [cum_step, hg]; omega
      have HG := Lib.hid hg
      clear hg htn htop
      go_wp2_with (go_at_call 24; refine (mDaysInMonth_is y ((i : Int) + 1) g _ he HG.out).mono ?_; rintro e w' ⟨rfl, rfl⟩)
      go_round
      case rel => exact ⟨i + 1, t + g, by omega, by go_num, rfl, by omega, tg, HT2⟩
      case measure => simp [intOf]; omega
    · obtain rfl : i = j := by omega
      have hti : ¬ (i : Int) < m - 1 := by have := HM.out; omega
      go_wp2
      go_ret
      exact ⟨ret_int (by rw [← H.out]; exact HT.out), rfl⟩

theorem ret_two {a b c d : Int} (h : a = c) (h' : b = d) : Ending.returned (.tuple #[.int .i64 a, .int .i64 b]) = Ending.returned (.tuple #[.int .i64 c, .int .i64 d]) := by rw [h, h']

set_option maxRecDepth 4000 in
set_option maxHeartbeats 1000000 in
theorem mSplitYear_is (n y t : Int) (w : World) (hv : okD n = true) (hy : 1900 + (kOf n : Int) = y) (ht : n - dby (kOf n) = t) : Calls Tryd.prog 45 #[.int .i64 n] w fun e w' => e = .returned (.tuple #[.int .i64 y, .int .i64 t]) ∧ w = w' := by
  obtain ⟨n0, n1⟩ := (okD_iff n).1 hv
  have HA := Lib.hid hy
  have HB := Lib.hid ht
  clear hy ht hv
  go_enter Tryd.func45, Tryd.ntmps45
  go_wp2
  go_loop [2, 3, 6] (fun vy vd vi => ∃ (i : Nat) (k s : Int), i < 300 ∧ vi = .int .i64 i ∧ vy = .int .i64 k ∧ vd = .int .i64 s ∧ 1900 ≤ k ∧ k ≤ 2200 ∧ 0 ≤ s ∧ s ≤ 109572 ∧ Hid (k = 1900 + i ∧ s = n - dby i)) (fun _ _ vi => 300 - (intOf vi).toNat)
  case atStart => exact ⟨0, 1900, n, by omega, rfl, rfl, rfl, by omega, by omega, n0, n1, (show _ from ⟨rfl, by simp [dby]⟩)⟩
  case round =>
    obtain ⟨i, k, s, hi, rfl, rfl, rfl, k0, k1, s0, s1, HT⟩ := hrel
    obtain ⟨g, hg⟩ : ∃ g, diy k = g := ⟨_, rfl⟩
    have hgb := diy_bd k
    rw [hg] at hgb
    obtain ⟨hg0, hg1⟩ := hgb
    have HG := Lib.hid hg
    have hki : (1900 + (i : Int)) = k := HT.out.1.symm
    have hsn := HT.out.2
    have hlti : (i : Int) < 300 := by omega
    by_cases hlt : s < g
    · have hkf := k_found (i := i) n0 n1 (by omega) (by rw [dby_step, hki, hg]; omega)
      have HKF := Lib.hid hkf.1
      clear hg hki hsn hkf
      go_wp2_with (go_at_call 56; refine (mDaysInYear_is k g _ HG.out).mono ?_; rintro e w' ⟨rfl, rfl⟩)
      go_ret2
      exact ⟨ret_two (by rw [← HA.out, HKF.out]; exact HT.out.1) (by rw [← HB.out, HKF.out]; exact HT.out.2), rfl⟩
    · have hi3 : i + 1 < 300 := by
        rcases Nat.lt_or_ge (i + 1) 300 with q | q
        · exact q
        · have := dby_le q
          rw [dby_300, dby_step, hki, hg] at this; omega
      have HT2 : Hid (k + 1 = 1900 + ((i + 1 : Nat) : Int) ∧ s - g = n - dby (i + 1)) := by
        show _ ∧ _
        rw [dby_step, hki, hg]
        exact ⟨by omega, by omega⟩
      have k2 : k + 1 ≤ 2200 := by omega
      have HI3 := Lib.hid hi3
      clear hg hki hsn hi3
      go_wp2_with (go_at_call 56; refine (mDaysInYear_is k g _ HG.out).mono ?_; rintro e w' ⟨rfl, rfl⟩)
      go_round
      case rel => exact ⟨i + 1, k + 1, s - g, HI3.out, by go_num, rfl, rfl, by omega, k2, by omega, by omega, HT2⟩
      case measure => simp [intOf]; omega

set_option maxHeartbeats 1000000 in
theorem mSplitMonth_is (n y t m d : Int) (w : World) (he : Env w) (hv : okD n = true) (hy : y = 1900 + (kOf n : Int)) (ht : t = n - dby (kOf n)) (hm : (jOf n : Int) + 1 = m) (hd : dOf n - 1 = d) : Calls Tryd.prog 46 #[.int .i64 y, .int .i64 t] w fun e w' => e = .returned (.tuple #[.int .i64 m, .int .i64 d]) ∧ w = w' := by
  have I := Is.of n hv
  have r1 := I.rest
  have r2 := diy_bd (1900 + (kOf n : Int))
  have t0 : 0 ≤ t := by omega
  have t1 : t ≤ 366 := by omega
  have H := Lib.hid (And.intro hv (And.intro hy (And.intro ht (And.intro hm hd))))
  have htd : t < diy y := by rw [hy]; omega
  have HD := Lib.hid htd
  clear I r1 r2 hv hy ht hm hd htd
  go_enter Tryd.func46, Tryd.ntmps46
  go_wp2
  go_loop [4, 5, 8] (fun vz vs vi => ∃ (i : Nat) (z s : Int), i < 12 ∧ vi = .int .i64 i ∧ vz = .int .i64 z ∧ vs = .int .i64 s ∧ 1 ≤ z ∧ z ≤ 13 ∧ 0 ≤ s ∧ s ≤ 366 ∧ Hid (z = i + 1 ∧ s = t - cum y i)) (fun _ _ vi => 12 - (intOf vi).toNat)
  case atStart => exact ⟨0, 1, t, by omega, rfl, rfl, rfl, by omega, by omega, t0, t1, (show _ from ⟨rfl, by simp [cum]⟩)⟩
  case round =>
    obtain ⟨i, z, s, hi, rfl, rfl, rfl, z0, z1, s0, s1, HT⟩ := hrel
    obtain ⟨g, hg⟩ : ∃ g, dim y z = g := ⟨_, rfl⟩
    have hgb := dim_bd y z
    rw [hg] at hgb
    obtain ⟨hg0, hg1⟩ := hgb
    have HG := Lib.hid hg
    have hzi : ((i : Int) + 1) = z := HT.out.1.symm
    have hsn := HT.out.2
    have hlti : (i : Int) < 12 := by omega
    by_cases hlt : s < g
    · have hjf : jOf n = i := by
        obtain ⟨hv, hy, ht, hm, hd⟩ := H.out
        exact j_found (j := i) hv rfl (by rw [← hy, ← ht]; omega) (by rw [cum_step, ← hy, ← ht, hzi, hg]; omega)
      have HJ := Lib.hid hjf
      clear hg hzi hsn hjf
      go_wp2_with (go_at_call 24; refine (mDaysInMonth_is y z g _ he HG.out).mono ?_; rintro e w' ⟨rfl, rfl⟩)
      go_ret2
      refine ⟨ret_two ?_ ?_, rfl⟩
      · rw [← H.out.2.2.2.1, HJ.out]; exact HT.out.1
      · rw [← H.out.2.2.2.2]
        unfold dOf
        rw [HJ.out, HT.out.2, H.out.2.2.1, H.out.2.1]; omega
    · have hi3 : i + 1 < 12 := by
        rcases Nat.lt_or_ge (i + 1) 12 with q | q
        · exact q
        · obtain rfl : i = 11 := by omega
          have c := cum_12 y
          rw [cum_step, hzi, hg] at c
          have := HD.out
          omega
      have HT2 : Hid (z + 1 = ((i + 1 : Nat) : Int) + 1 ∧ s - g = t - cum y (i + 1)) := by
        show _ ∧ _
        rw [cum_step, hzi, hg]
        exact ⟨by omega, by omega⟩
      have z2 : z + 1 ≤ 13 := by omega
      clear hg hzi hsn
      go_wp2_with (go_at_call 24; refine (mDaysInMonth_is y z g _ he HG.out).mono ?_; rintro e w' ⟨rfl, rfl⟩)
      go_round
      case rel => exact ⟨i + 1, z + 1, s - g, hi3, by go_num, rfl, rfl, by omega, z2, by omega, by omega, HT2⟩
      case measure => simp [intOf]; omega
end Go.Proofs.YtmmohbmgodiilaaDoor.cal
