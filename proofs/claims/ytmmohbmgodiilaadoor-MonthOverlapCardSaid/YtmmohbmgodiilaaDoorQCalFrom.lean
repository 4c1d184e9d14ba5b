/-
  What the reference's FromYMD of chapter 4 answers: the walk.
-/
import Derived.Test.YtmmohbmgodiilaaDoorQCalLeap
import Derived.LoopTactic
namespace Go.Proofs.YtmmohbmgodiilaaDoor.cal
open Go Go.RowKit Go.Proofs.YtmmohbmgodiilaaDoor.money
set_option linter.unusedVariables false

theorem dby_top {k : Nat} (h : k ≤ 300) : 0 ≤ dby k ∧ dby k ≤ 109573 := by
  have h1 := dby_nonneg k
  have h2 := dby_le h
  rw [dby_300] at h2
  omega
theorem cum_top {y : Int} {j : Nat} (h : j ≤ 12) : 0 ≤ cum y j ∧ cum y j ≤ 366 := by
  have h1 := cum_nonneg y j
  have h2 := cum_le y h
  rw [cum_12] at h2
  have := diy_bd y
  omega

set_option maxHeartbeats 1000000 in
theorem rFromYMD_is (y m d a c : Int) (w : World) (h : fromR y m d = (a, c)) : Calls Tryd.prog 26 #[.int .i64 y, .int .i64 m, .int .i64 d] w fun e w' => e = .returned (.tuple #[.int .i64 a, .int .i64 c]) ∧ w = w' := by
  unfold fromR at h
  obtain ⟨x, hx⟩ : ∃ x, dim y m = x := ⟨_, rfl⟩
  have HX := Lib.hid hx
  by_cases e1 : y < 1900
  · rw [if_pos (.inl e1)] at h
    cases h
    clear hx
    go_enter Tryd.func26, Tryd.ntmps26
    go_wp2
    go_ret2
    exact ⟨rfl, rfl⟩
  · by_cases e2 : 2199 < y
    · rw [if_pos (.inr (.inl e2))] at h
      cases h
      clear hx
      go_enter Tryd.func26, Tryd.ntmps26
      go_wp2
      go_ret2
      exact ⟨rfl, rfl⟩
    · by_cases e3 : d < 1
      · rw [if_pos (.inr (.inr (.inl e3)))] at h
        cases h
        clear hx
        go_enter Tryd.func26, Tryd.ntmps26
        go_wp2
        go_ret2
        exact ⟨rfl, rfl⟩
      · rw [hx] at h
        by_cases e4 : x < d
        · rw [if_pos (.inr (.inr (.inr e4)))] at h
          cases h
          clear hx
          go_enter Tryd.func26, Tryd.ntmps26
          go_wp2_with (go_at_call 29; refine (rDaysInMonth_is y m x _ HX.out).mono ?_; rintro e w' ⟨rfl, rfl⟩)
          go_ret2
          exact ⟨rfl, rfl⟩
        · rw [if_neg (by omega)] at h
          obtain ⟨ha, rfl⟩ := Prod.mk.inj h
          have HA := Lib.hid ha
          clear h ha
          have hd := dim_bd y m
          have hm := dim_out (y := y) (m := m) (by omega)
          rw [hx] at hd
          obtain ⟨m0, m1⟩ := hm
          obtain ⟨-, d31⟩ := hd
          clear hx
          go_enter Tryd.func26, Tryd.ntmps26
          go_wp2_with (go_at_call 29; refine (rDaysInMonth_is y m x _ HX.out).mono ?_; rintro e w' ⟨rfl, rfl⟩)
          go_loop [8, 9] (fun vn vk => ∃ (i : Nat) (k t : Int), vk = .int .i64 k ∧ vn = .int .i64 t ∧ 1900 ≤ k ∧ k ≤ y ∧ 0 ≤ t ∧ t ≤ 120000 ∧ Hid (k = 1900 + i ∧ t = d - 1 + dby i)) (fun _ vk => (y - intOf vk).toNat)
          case atStart => exact ⟨0, 1900, d - 1, rfl, by first | rfl | go_num, by omega, by omega, by omega, by omega, (show _ from ⟨rfl, by simp [dby]⟩)⟩
          case round =>
            obtain ⟨i, k, t, rfl, rfl, k0, k1, t0, t1, HT⟩ := hrel
            by_cases hlt : k < y
            · obtain ⟨g, hg⟩ : ∃ g, diy k = g := ⟨_, rfl⟩
              have hgb := diy_bd k
              rw [hg] at hgb
              obtain ⟨hg0, hg1⟩ := hgb
              have HG := Lib.hid hg
              have htop := dby_top (k := i + 1) (by have := HT.out.1; omega)
              rw [dby_step] at htop
              have hki : (1900 + (i : Int)) = k := HT.out.1.symm
              rw [hki, hg] at htop
              have htn := HT.out.2
              have HT2 : Hid (k + 1 = 1900 + ((i + 1 : Nat) : Int) ∧ t + g = d - 1 + dby (i + 1)) := by
                show _ ∧ _
                rw [dby_step, hki, hg]
                exact ⟨by omega, by omega⟩
              have tg : t + g ≤ 120000 := by omega
              clear hg hki htn htop
              go_wp2_with (go_at_call 43; refine (rDaysInYear_is k g _ HG.out).mono ?_; rintro e w' ⟨rfl, rfl⟩)
              go_round
              case rel => exact ⟨i + 1, k + 1, t + g, rfl, rfl, by omega, by omega, by omega, tg, HT2⟩
              case measure => simp [intOf]; omega
            · obtain rfl : k = y := by omega
              have hki := HT.out.1
              have htn := HT.out.2
              have HY : Hid (t = d - 1 + dby (k - 1900).toNat) := by
                show _ = _
                rw [show (k - 1900).toNat = i by omega]; exact htn
              clear hki htn HT
              go_wp2
              go_loop [8, 10] (fun vn vk => ∃ (j : Nat) (z s : Int), vk = .int .i64 z ∧ vn = .int .i64 s ∧ 1 ≤ z ∧ z ≤ m ∧ 0 ≤ s ∧ s ≤ 130000 ∧ Hid (z = j + 1 ∧ s = t + cum k j)) (fun _ vk => (m - intOf vk).toNat)
              case atStart => exact ⟨0, 1, t, rfl, rfl, by omega, by omega, t0, by omega, (show _ from ⟨rfl, by simp [cum]⟩)⟩
              case round =>
                obtain ⟨j, z, s, rfl, rfl, z0, z1, s0, s1, HS⟩ := hrel
                by_cases hlt2 : z < m
                · obtain ⟨g, hg⟩ : ∃ g, dim k z = g := ⟨_, rfl⟩
                  have hgb := dim_bd k z
                  rw [hg] at hgb
                  obtain ⟨hg0, hg1⟩ := hgb
                  have HG := Lib.hid hg
                  have htop := cum_top (y := k) (j := j + 1) (by have := HS.out.1; omega)
                  rw [cum_step] at htop
                  have hzj : ((j : Int) + 1) = z := HS.out.1.symm
                  rw [hzj, hg] at htop
                  have hsn := HS.out.2
                  have HS2 : Hid (z + 1 = ((j + 1 : Nat) : Int) + 1 ∧ s + g = t + cum k (j + 1)) := by
                    show _ ∧ _
                    rw [cum_step, hzj, hg]
                    exact ⟨by omega, by omega⟩
                  have sg : s + g ≤ 130000 := by omega
                  clear hg hzj hsn htop
                  go_wp2_with (go_at_call 29; refine (rDaysInMonth_is k z g _ HG.out).mono ?_; rintro e w' ⟨rfl, rfl⟩)
                  go_round
                  case rel => exact ⟨j + 1, z + 1, s + g, rfl, rfl, by omega, by omega, by omega, sg, HS2⟩
                  case measure => simp [intOf]; omega
                · obtain rfl : z = m := by omega
                  go_wp2
                  go_ret2
                  have hzj := HS.out.1
                  have hsn := HS.out.2
                  have hy := HY.out
                  have e : s = a := by
                    rw [← HA.out, show (z - 1).toNat = j by omega]; omega
                  subst e
                  exact ⟨rfl, rfl⟩
end Go.Proofs.YtmmohbmgodiilaaDoor.cal
