/-
  What the reference's ToYMD of chapter 4 answers: the walk.
-/
import Derived.Test.YtmmohbmgodiilaaDoorQCalVal
import Derived.LoopTactic
namespace Go.Proofs.YtmmohbmgodiilaaDoor.cal
open Go Go.RowKit Go.Proofs.YtmmohbmgodiilaaDoor.money
set_option linter.unusedVariables false

theorem k_found {n : Int} {i : Nat} (h0 : 0 ≤ n) (h1 : n ≤ 109572) (hi : dby i ≤ n) (hj : n < dby (i + 1)) : kOf n = i ∧ i < 300 := by
  have hk := (Is.of n ((okD_iff n).2 ⟨h0, h1⟩))
  have hr := hk.rest
  have hi3 : i < 300 := by
    rcases Nat.lt_or_ge i 300 with g | g
    · exact g
    · have := dby_le g
      rw [dby_300] at this; omega
  refine ⟨?_, hi3⟩
  rcases Nat.lt_trichotomy (kOf n) i with g | g | g
  · have := dby_le (show kOf n + 1 ≤ i from g)
    rw [dby_step] at this; omega
  · exact g
  · have := dby_le (show i + 1 ≤ kOf n from g)
    omega
theorem j_found {n : Int} {k j : Nat} (ho : okD n = true) (hk : kOf n = k) (h0 : cum (1900 + k) j ≤ n - dby k) (h1 : n - dby k < cum (1900 + k) (j + 1)) : jOf n = j := by
  have I := Is.of n ho
  have n1 := I.n1
  have d0 := I.d0
  have d1 := I.d1
  rw [hk] at n1 d1
  rcases Nat.lt_trichotomy (jOf n) j with g | g | g
  · have := cum_le (1900 + k) (show jOf n + 1 ≤ j from g)
    rw [cum_step] at this; omega
  · exact g
  · have := cum_le (1900 + k) (show j + 1 ≤ jOf n from g)
    omega

set_option maxHeartbeats 1000000 in
theorem rToYMD_is (n y m d : Int) (w : World) (h : toR n = (y, m, d)) : Calls Tryd.prog 28 #[.int .i64 n] w fun e w' => e = .returned (.tuple #[.int .i64 y, .int .i64 m, .int .i64 d]) ∧ w = w' := by
  unfold toR at h
  cases hv : okD n
  · rw [hv, if_neg (by decide)] at h
    cases h
    have HV := Lib.hid hv
    clear hv
    go_enter Tryd.func28, Tryd.ntmps28
    go_wp2_with (go_at_call 47; refine (rValid_is n false _ HV.out).mono ?_; rintro e w' ⟨rfl, rfl⟩)
    go_ret3
    exact ⟨rfl, rfl⟩
  · rw [hv, if_pos rfl] at h
    have HV := Lib.hid hv
    have H := Lib.hid h
    obtain ⟨n0, n1⟩ := (okD_iff n).1 hv
    clear hv h
    go_enter Tryd.func28, Tryd.ntmps28
    go_wp2_with (go_at_call 47; refine (rValid_is n true _ HV.out).mono ?_; rintro e w' ⟨rfl, rfl⟩)
    go_loop [0, 5] (fun vt vk => ∃ (i : Nat) (k t : Int), vk = .int .i64 k ∧ vt = .int .i64 t ∧ 1900 ≤ k ∧ k ≤ 2200 ∧ 0 ≤ t ∧ t ≤ 109572 ∧ Hid (k = 1900 + i ∧ t = n - dby i)) (fun vt _ => (intOf vt).toNat)
    case atStart => exact ⟨0, 1900, n, rfl, rfl, by omega, by omega, n0, n1, (show _ from ⟨rfl, by simp [dby]⟩)⟩
    case round =>
      obtain ⟨i, k, t, rfl, rfl, k0, k1, t0, t1, HT⟩ := hrel
      obtain ⟨g, hg⟩ : ∃ g, diy k = g := ⟨_, rfl⟩
      have hgb := diy_bd k
      rw [hg] at hgb
      obtain ⟨hg0, hg1⟩ := hgb
      have HG := Lib.hid hg
      have hki : (1900 + (i : Int)) = k := HT.out.1.symm
      have htn := HT.out.2
      by_cases hlt : g ≤ t
      · have hi3 : i < 300 := by
          rcases Nat.lt_or_ge i 300 with q | q
          · exact q
          · have := dby_le q
            rw [dby_300] at this; omega
        have HT2 : Hid (k + 1 = 1900 + ((i + 1 : Nat) : Int) ∧ t - g = n - dby (i + 1)) := by
          show _ ∧ _
          rw [dby_step, hki, hg]
          exact ⟨by omega, by omega⟩
        have k2 : k + 1 ≤ 2200 := by omega
        clear hg hki htn
        go_wp2_with (go_at_call 43; refine (rDaysInYear_is k g _ HG.out).mono ?_; rintro e w' ⟨rfl, rfl⟩)
        go_round
        case rel => exact ⟨i + 1, k + 1, t - g, rfl, rfl, by omega, k2, by omega, by omega, HT2⟩
        case measure => simp [intOf]; omega
      · have hkf := k_found (i := i) n0 n1 (by omega) (by rw [dby_step, hki, hg]; omega)
        have HKF := Lib.hid hkf
        clear hg hki htn hkf
        go_wp2_with (go_at_call 43; refine (rDaysInYear_is k g _ HG.out).mono ?_; rintro e w' ⟨rfl, rfl⟩)
        go_loop [0, 6] (fun vt vz => ∃ (j : Nat) (z s : Int), vz = .int .i64 z ∧ vt = .int .i64 s ∧ 1 ≤ z ∧ z ≤ 12 ∧ 0 ≤ s ∧ s ≤ 366 ∧ Hid (z = j + 1 ∧ s = t - cum k j)) (fun vt _ => (intOf vt).toNat)
        case atStart => exact ⟨0, 1, t, rfl, rfl, by omega, by omega, t0, by omega, (show _ from ⟨rfl, by simp [cum]⟩)⟩
        case round =>
          obtain ⟨j, z, s, rfl, rfl, z0, z1, s0, s1, HS⟩ := hrel
          obtain ⟨q, hq⟩ : ∃ g, dim k z = g := ⟨_, rfl⟩
          have hqb := dim_pos (y := k) z0 z1
          have hqt := dim_bd k z
          rw [hq] at hqb hqt
          have hq1 := hqt.2
          have HQ := Lib.hid hq
          have hzj : ((j : Int) + 1) = z := HS.out.1.symm
          have hsn := HS.out.2
          by_cases hls : q ≤ s
          · have z2 : z + 1 ≤ 12 := by
              rcases Int.lt_or_le z 12 with p | p
              · omega
              · obtain rfl : j = 11 := by omega
                have c := cum_12 k
                rw [cum_step, hzj, hq, HG.out] at c
                omega
            have HS2 : Hid (z + 1 = ((j + 1 : Nat) : Int) + 1 ∧ s - q = t - cum k (j + 1)) := by
              show _ ∧ _
              rw [cum_step, hzj, hq]
              exact ⟨by omega, by omega⟩
            clear hq hzj hsn hqt
            go_wp2_with (go_at_call 29; refine (rDaysInMonth_is k z q _ HQ.out).mono ?_; rintro e w' ⟨rfl, rfl⟩)
            go_round
            case rel => exact ⟨j + 1, z + 1, s - q, rfl, rfl, by omega, z2, by omega, by omega, HS2⟩
            case measure => simp [intOf]; omega
          · have hH := H.out
            have hfin : k = y ∧ z = m ∧ s + 1 = d := by
              have hk2 := HT.out
              have hkk := HKF.out.1
              have e1 : (1900 + (i : Int)) = k := hk2.1.symm
              have hj := j_found (j := j) HV.out hkk (by rw [e1]; omega) (by rw [e1, cum_step, hzj, hq]; omega)
              rw [hkk, hj] at hH
              unfold dOf at hH
              rw [hkk, hj, e1] at hH
              simp only [Prod.mk.injEq] at hH
              omega
            obtain ⟨rfl, rfl, rfl⟩ := hfin
            clear hq hzj hsn hqt hH
            go_wp2_with (go_at_call 29; refine (rDaysInMonth_is k z q _ HQ.out).mono ?_; rintro e w' ⟨rfl, rfl⟩)
            go_ret3
            exact ⟨rfl, rfl⟩
end Go.Proofs.YtmmohbmgodiilaaDoor.cal
