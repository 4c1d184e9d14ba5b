/-
  What the reference's AddMonths of chapter 4 answers: the walk.
-/
import Derived.Test.YtjjnlihokcddbaaDoorCalFrom
import Derived.Test.YtjjnlihokcddbaaDoorCalTo
namespace Go.Proofs.YtjjnlihokcddbaaDoor.cal
open Go Go.RowKit Go.Proofs.YtjjnlihokcddbaaDoor.money
set_option linter.unusedVariables false

/-- the parts of an addition of months -/
theorem addR_parts {a n y m d : Int} (ha : okD a = true) (h0 : -3600 ≤ n) (h1 : n ≤ 3600) (h : toR a = (y, m, d)) :
    1900 ≤ y ∧ y ≤ 2199 ∧ 1 ≤ m ∧ m ≤ 12 ∧ 1 ≤ d ∧ d ≤ 31 ∧ addR a n = fromR ((12 * y + m - 1 + n) / 12) ((12 * y + m - 1 + n) % 12 + 1) (min d (dim ((12 * y + m - 1 + n) / 12) ((12 * y + m - 1 + n) % 12 + 1))) := by
  have I := Is.of a ha
  rw [I.to] at h
  simp only [Prod.mk.injEq] at h
  obtain ⟨rfl, rfl, rfl⟩ := h
  have k1 := I.k1
  have j1 := I.j1
  have d0 := I.d0
  have d1 := I.d1
  have db := dim_bd (1900 + (kOf a : Int)) ((jOf a : Int) + 1)
  refine ⟨by omega, by omega, by omega, by omega, d0, by omega, ?_⟩
  unfold addR
  rw [ha, show decide (-3600 ≤ n) = true by simpa using h0, show decide (n ≤ 3600) = true by simpa using h1]
  simp only [Bool.and_self, if_true]
  rw [show 12 * (1900 + (kOf a : Int)) + ((jOf a : Int) + 1) - 1 + n = 12 * (1900 + (kOf a : Int)) + (jOf a : Int) + n by omega]
theorem addR_bad {a n : Int} (h : okD a = false ∨ n < -3600 ∨ 3600 < n) : addR a n = (0, 3) := by
  unfold addR
  rw [if_neg]
  rcases h with h | h | h
  · rw [h]; simp
  · simp; omega
  · simp; omega

set_option maxHeartbeats 1000000 in
theorem rAddMonths_is (a n x c : Int) (w : World) (h : addR a n = (x, c)) : Calls Tryd.prog 18 #[.int .i64 a, .int .i64 n] w fun e w' => e = .returned (.tuple #[.int .i64 x, .int .i64 c]) ∧ w = w' := by
  cases hv : okD a
  · rw [addR_bad (.inl hv)] at h
    cases h
    have HV := Lib.hid hv
    clear hv
    go_enter Tryd.func18, Tryd.ntmps18
    go_wp2_with (go_at_call 33; refine (rValid_is a false _ HV.out).mono ?_; rintro e w' ⟨rfl, rfl⟩)
    go_ret2
    exact ⟨rfl, rfl⟩
  · by_cases h0 : n < -3600
    · rw [addR_bad (.inr (.inl h0))] at h
      cases h
      have HV := Lib.hid hv
      clear hv
      go_enter Tryd.func18, Tryd.ntmps18
      go_wp2_with (go_at_call 33; refine (rValid_is a true _ HV.out).mono ?_; rintro e w' ⟨rfl, rfl⟩)
      go_ret2
      exact ⟨rfl, rfl⟩
    · by_cases h1 : 3600 < n
      · rw [addR_bad (.inr (.inr h1))] at h
        cases h
        have HV := Lib.hid hv
        clear hv
        go_enter Tryd.func18, Tryd.ntmps18
        go_wp2_with (go_at_call 33; refine (rValid_is a true _ HV.out).mono ?_; rintro e w' ⟨rfl, rfl⟩)
        go_ret2
        exact ⟨rfl, rfl⟩
      · obtain ⟨⟨y, m, d⟩, hto⟩ : ∃ r, toR a = r := ⟨_, rfl⟩
        obtain ⟨y0, y1, m0, m1, d0, d1, hadd⟩ := addR_parts (n := n) hv (by omega) (by omega) hto
        rw [hadd] at h
        obtain ⟨K, hK⟩ : ∃ K, 12 * y + m - 1 + n = K := ⟨_, rfl⟩
        rw [hK] at h
        obtain ⟨Q, hQ⟩ : ∃ Q, K / 12 = Q := ⟨_, rfl⟩
        obtain ⟨R, hR⟩ : ∃ R, K % 12 = R := ⟨_, rfl⟩
        rw [hQ, hR] at h
        obtain ⟨g, hg⟩ : ∃ g, dim Q (R + 1) = g := ⟨_, rfl⟩
        rw [hg] at h
        have K0 : 0 ≤ K := by omega
        have R0 : 0 ≤ R ∧ R ≤ 11 := by omega
        obtain ⟨R0, R1⟩ := R0
        have Q0 : 0 ≤ Q := by omega
        have Q1 : Q ≤ 3000 := by omega
        have f1 : K.tdiv 12 = Q := by rw [tdiv_of K0]; exact hQ
        have f2 : K.tmod 12 = R := by rw [tmod_of K0]; exact hR
        have f3 : wrap64 Q = Q := IntWalk.wrap64_in Q ⟨by omega, by omega⟩
        have f4 : IntKind.i64.wrap Q = Q := i64_in (by omega) (by omega)
        have f5 : K / 12 = Q := hQ
        have f6 : K % 12 = R := hR
        have HV := Lib.hid hv
        have HT := Lib.hid hto
        have HG := Lib.hid hg
        have H := Lib.hid h
        clear hv hto hg h hQ hR hadd
        by_cases hdg : g < d
        · have hm : min d g = g := by omega
          have HM := Lib.hid hm
          have hgd : ¬ d ≤ g := by omega
          clear hm
          go_enter Tryd.func18, Tryd.ntmps18
          go_wp2_with (first
            | (go_at_call 33; refine (rValid_is a true _ HV.out).mono ?_; rintro e w' ⟨rfl, rfl⟩)
            | (go_at_call 11; refine (rToYMD_is a y m d _ HT.out).mono ?_; rintro e w' ⟨rfl, rfl⟩)
            | (go_at_call 15; refine (rDaysInMonth_is Q (R + 1) g _ HG.out).mono ?_; rintro e w' ⟨rfl, rfl⟩)
            | (go_at_call 9; refine (rFromYMD_is Q (R + 1) g x c _ (by have := H.out; rw [HM.out] at this; exact this)).mono ?_; rintro e w' ⟨rfl, rfl⟩)
            | fail)
          go_ret2
          exact ⟨rfl, rfl⟩
        · have hm : min d g = d := by omega
          have HM := Lib.hid hm
          have hgd : d ≤ g := by omega
          clear hm
          go_enter Tryd.func18, Tryd.ntmps18
          go_wp2_with (first
            | (go_at_call 33; refine (rValid_is a true _ HV.out).mono ?_; rintro e w' ⟨rfl, rfl⟩)
            | (go_at_call 11; refine (rToYMD_is a y m d _ HT.out).mono ?_; rintro e w' ⟨rfl, rfl⟩)
            | (go_at_call 15; refine (rDaysInMonth_is Q (R + 1) g _ HG.out).mono ?_; rintro e w' ⟨rfl, rfl⟩)
            | (go_at_call 9; refine (rFromYMD_is Q (R + 1) d x c _ (by have := H.out; rw [HM.out] at this; exact this)).mono ?_; rintro e w' ⟨rfl, rfl⟩)
            | fail)
          go_ret2
          exact ⟨rfl, rfl⟩
end Go.Proofs.YtjjnlihokcddbaaDoor.cal
