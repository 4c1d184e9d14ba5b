/-
  A ratio in millionths by two steps: plain mathematics. No program text.
-/
import Derived.Test.YtnboimaocmeojaaRateSpec
namespace Go.Proofs.Ytnboimaocmeojaa.money
set_option linter.unusedVariables false

/-- adding an even number of whole units moves a rounded quotient by just that number -/
theorem rnd_shift (q k r d : Int) (neg : Bool) (m : Int) (hk : k % 2 = 0) : rnd (k + q) r d neg m = (if neg then -k else k) + rnd q r d neg m := by
  have e : up (k + q) r d neg m = up q r d neg m := by
    unfold up
    have : decide ((k + q) % 2 = 1) = decide (q % 2 = 1) := by rw [decide_eq_decide]; omega
    rw [this]
  unfold rnd mag
  rw [e]
  cases neg
  · simp only [Bool.false_eq_true, if_false]; split <;> omega
  · simp only [if_true]; split <;> omega

theorem two_signs (T1 T2 : Int) (q1 q2 : Nat) (neg : Bool) (h : neg = true → T1 ≤ 0 ∧ T2 ≤ 0) (h' : neg = false → 0 ≤ T1 ∧ 0 ≤ T2) (a1 : T1.natAbs = q1) (a2 : T2.natAbs = q2) :
    (T1 * 1000 + T2) * 1000 = if neg then -(((q1 * 1000 + q2) * 1000 : Nat) : Int) else (((q1 * 1000 + q2) * 1000 : Nat) : Int) := by
  cases neg
  · obtain ⟨g1, g2⟩ := h' rfl
    clear h h'
    simp only [Bool.false_eq_true, if_false]
    omega
  · obtain ⟨g1, g2⟩ := h rfl
    clear h h'
    simp only [if_true]
    omega
theorem tdiv_sign (x d : Int) : (0 ≤ x → 0 < d → 0 ≤ x.tdiv d) ∧ (x ≤ 0 → 0 < d → x.tdiv d ≤ 0) ∧ (0 ≤ x → d < 0 → x.tdiv d ≤ 0) ∧ (x ≤ 0 → d < 0 → 0 ≤ x.tdiv d) := by
  refine ⟨fun h g => Int.tdiv_nonneg h (by omega), fun h g => ?_, fun h g => ?_, fun h g => ?_⟩
  · have := Int.tdiv_nonneg (show 0 ≤ -x by omega) (show 0 ≤ d by omega)
    rw [Int.neg_tdiv] at this; omega
  · have := Int.tdiv_nonneg h (show 0 ≤ -d by omega)
    rw [Int.tdiv_neg] at this; omega
  · have := Int.tdiv_nonneg (show 0 ≤ -x by omega) (show 0 ≤ -d by omega)
    rw [Int.neg_tdiv, Int.tdiv_neg] at this; omega

theorem step_signs (n d : Int) (hd : d ≠ 0) : ((decide (n < 0) != decide (d < 0)) = true → n.tdiv d ≤ 0 ∧ (n.tmod d * 1000).tdiv d ≤ 0) ∧ ((decide (n < 0) != decide (d < 0)) = false → 0 ≤ n.tdiv d ∧ 0 ≤ (n.tmod d * 1000).tdiv d) := by
  have hsg : (0 ≤ n → 0 ≤ n.tmod d) ∧ (n ≤ 0 → n.tmod d ≤ 0) := by
    refine ⟨fun h => Int.tmod_nonneg _ h, fun h => ?_⟩
    have := Int.tmod_nonneg d (show 0 ≤ -n by omega)
    rw [Int.neg_tmod] at this; omega
  have k1 := tdiv_sign n d
  have k2 := tdiv_sign (n.tmod d * 1000) d
  have k3 : n < 0 → n.tmod d * 1000 ≤ 0 := fun h => by have := hsg.2 (by omega); omega
  have k4 : ¬ n < 0 → 0 ≤ n.tmod d * 1000 := fun h => by have := hsg.1 (by omega); omega
  obtain ⟨T, hT⟩ : ∃ T, n.tmod d * 1000 = T := ⟨_, rfl⟩
  rw [hT] at k2 k3 k4 ⊢
  clear hT hsg
  refine ⟨fun h => ?_, fun h => ?_⟩
  · by_cases hn : n < 0
    · by_cases hd0 : d < 0
      · rw [decide_eq_true hn, decide_eq_true hd0] at h; cases h
      · exact ⟨k1.2.1 (Int.le_of_lt hn) (by omega), k2.2.1 (k3 hn) (by omega)⟩
    · by_cases hd0 : d < 0
      · exact ⟨k1.2.2.1 (Int.not_lt.1 hn) hd0, k2.2.2.1 (k4 hn) hd0⟩
      · rw [decide_eq_false hn, decide_eq_false hd0] at h; cases h
  · by_cases hn : n < 0
    · by_cases hd0 : d < 0
      · exact ⟨k1.2.2.2 (Int.le_of_lt hn) hd0, k2.2.2.2 (k3 hn) hd0⟩
      · rw [decide_eq_true hn, decide_eq_false hd0] at h; cases h
    · by_cases hd0 : d < 0
      · rw [decide_eq_false hn, decide_eq_true hd0] at h; cases h
      · exact ⟨k1.1 (Int.not_lt.1 hn) (by omega), k2.1 (k4 hn) (by omega)⟩

/-- a ratio in millionths, in two steps: the thousandths, and the rest rounded -/
theorem quot_steps (n d m : Int) (hd : d ≠ 0) :
    quot (n * 1000000) d m = (n.tdiv d * 1000 + (n.tmod d * 1000).tdiv d) * 1000 + quot ((n.tmod d * 1000).tmod d * 1000) d m := by
  have hdp : 0 < d.natAbs := by omega
  obtain ⟨b, hb⟩ : ∃ b, d.natAbs = b := ⟨_, rfl⟩
  obtain ⟨a, ha⟩ : ∃ a, n.natAbs = a := ⟨_, rfl⟩
  rw [hb] at hdp
  -- magnitudes
  have t1 : (n.tmod d).natAbs = a % b := by rw [Int.natAbs_tmod, ha, hb]
  have t2 : (n.tmod d * 1000).natAbs = a % b * 1000 := by rw [Int.natAbs_mul, t1]; rfl
  have t3 : ((n.tmod d * 1000).tmod d).natAbs = a % b * 1000 % b := by rw [Int.natAbs_tmod, t2, hb]
  have t4 : ((n.tmod d * 1000).tmod d * 1000).natAbs = a % b * 1000 % b * 1000 := by rw [Int.natAbs_mul, t3]; rfl
  have t5 : (n.tdiv d).natAbs = a / b := by rw [Int.natAbs_tdiv, ha, hb]; rfl
  have t6 : ((n.tmod d * 1000).tdiv d).natAbs = a % b * 1000 / b := by rw [Int.natAbs_tdiv, t2, hb]; rfl
  have s1 := split_mul a 1000 b hdp
  have s2 := split_mul (a * 1000) 1000 b hdp
  rw [← s1.2, ← s1.1, show a * 1000 * 1000 = a * 1000000 by omega] at s2
  obtain ⟨q1, hq1⟩ : ∃ q, a / b = q := ⟨_, rfl⟩
  obtain ⟨q2, hq2⟩ : ∃ q, a % b * 1000 / b = q := ⟨_, rfl⟩
  obtain ⟨s, hs⟩ : ∃ s, a % b * 1000 % b * 1000 = s := ⟨_, rfl⟩
  rw [hq1, hq2, hs] at s2
  rw [hs] at t4
  rw [hq1] at t5
  rw [hq2] at t6
  rw [quot_form, quot_form, Int.natAbs_mul, ha, hb, t4, show (1000000 : Int).natAbs = 1000000 from rfl, ← s2.1, ← s2.2]
  have hsg : (0 ≤ n → 0 ≤ n.tmod d) ∧ (n ≤ 0 → n.tmod d ≤ 0) := by
    refine ⟨fun h => Int.tmod_nonneg _ h, fun h => ?_⟩
    have := Int.tmod_nonneg d (show 0 ≤ -n by omega)
    rw [Int.neg_tmod] at this; omega
  have hsg2 : (0 ≤ n → 0 ≤ (n.tmod d * 1000).tmod d) ∧ (n ≤ 0 → (n.tmod d * 1000).tmod d ≤ 0) := by
    refine ⟨fun h => Int.tmod_nonneg _ (by have := hsg.1 h; omega), fun h => ?_⟩
    have := Int.tmod_nonneg d (show 0 ≤ -(n.tmod d * 1000) by have := hsg.2 h; omega)
    rw [Int.neg_tmod] at this; omega
  have hneg0 : decide (n * 1000000 < 0) = decide (n < 0) := by rw [decide_eq_decide]; clear t1 t2 t3 t4 t5 t6 s1 s2; omega
  have key := two_signs (n.tdiv d) ((n.tmod d * 1000).tdiv d) q1 q2 (decide (n < 0) != decide (d < 0)) (step_signs n d hd).1 (step_signs n d hd).2 t5 t6
  rw [key, hneg0]
  clear key hsg t5 t6 t1 t2 t3
  obtain ⟨R2, hR2⟩ : ∃ x, (n.tmod d * 1000).tmod d = x := ⟨_, rfl⟩
  rw [hR2] at hsg2 t4 ⊢
  obtain ⟨K, hK⟩ : ∃ K : Nat, (q1 * 1000 + q2) * 1000 = K := ⟨_, rfl⟩
  have hK2 : (K : Int) % 2 = 0 := by omega
  rw [hK]
  obtain ⟨neg, hneg⟩ : ∃ x, (decide (n < 0) != decide (d < 0)) = x := ⟨_, rfl⟩
  rw [hneg]
  clear hK
  by_cases hz : s = 0
  · subst hz
    rw [Nat.zero_div, Nat.zero_mod, Nat.add_zero]
    rw [show ((0 : Nat) : Int) = 0 from rfl, rnd_zero _ (by omega), Int.add_zero, rnd_whole _ _ (by omega)]
  · have hne : decide (R2 * 1000 < 0) = decide (n < 0) := by
      rw [decide_eq_decide]
      obtain ⟨g1, g2⟩ := hsg2
      have : R2 ≠ 0 := by intro h0; subst h0; simp at t4; omega
      refine ⟨fun h => ?_, fun h => ?_⟩
      · refine Int.not_le.1 (fun h5 => ?_)
        have := g1 h5; omega
      · have := g2 (by omega); omega
    rw [hne, hneg, Int.natCast_add, rnd_shift _ _ _ _ _ _ hK2]
/-- the thousandths are no more than the whole quotient -/
theorem steps_abs (n d : Int) (hd : d ≠ 0) : ((n.tdiv d * 1000 + (n.tmod d * 1000).tdiv d) * 1000).natAbs ≤ n.natAbs * 1000000 / d.natAbs := by
  have hdp : 0 < d.natAbs := by omega
  have t5 : (n.tdiv d).natAbs = n.natAbs / d.natAbs := by rw [Int.natAbs_tdiv]; rfl
  have t2 : (n.tmod d * 1000).natAbs = n.natAbs % d.natAbs * 1000 := by rw [Int.natAbs_mul, Int.natAbs_tmod]; rfl
  have t6 : ((n.tmod d * 1000).tdiv d).natAbs = n.natAbs % d.natAbs * 1000 / d.natAbs := by rw [Int.natAbs_tdiv, t2]; rfl
  have s1 := split_mul n.natAbs 1000 d.natAbs hdp
  have s2 := split_mul (n.natAbs * 1000) 1000 d.natAbs hdp
  rw [← s1.2, ← s1.1, show n.natAbs * 1000 * 1000 = n.natAbs * 1000000 by omega] at s2
  have key := two_signs (n.tdiv d) ((n.tmod d * 1000).tdiv d) _ _ (decide (n < 0) != decide (d < 0)) (step_signs n d hd).1 (step_signs n d hd).2 t5 t6
  rw [key, ← s2.1]
  obtain ⟨p, hp⟩ : ∃ p, n.natAbs / d.natAbs = p := ⟨_, rfl⟩
  obtain ⟨q, hq⟩ : ∃ q, n.natAbs % d.natAbs * 1000 / d.natAbs = q := ⟨_, rfl⟩
  obtain ⟨s, hs⟩ : ∃ s, n.natAbs % d.natAbs * 1000 % d.natAbs * 1000 / d.natAbs = s := ⟨_, rfl⟩
  rw [hp, hq, hs]
  clear key s1 s2 t2 t5 t6 hp hq hs
  cases (decide (n < 0) != decide (d < 0))
  · simp only [Bool.false_eq_true, if_false]; omega
  · simp only [if_true]; omega
theorem steps_far (n d m : Int) (hd : d ≠ 0) (h : beyond (n.tdiv d * 1000 + (n.tmod d * 1000).tdiv d) 1000000 = true) : beyond (quot (n * 1000000) d m) 1000000000 = true := by
  have h1 := steps_abs n d hd
  have h2 := rnd_abs ((n * 1000000).natAbs / d.natAbs : Nat) ((n * 1000000).natAbs % d.natAbs : Nat) d.natAbs (decide (n * 1000000 < 0) != decide (d < 0)) m (Int.natCast_nonneg _)
  rw [← quot_form, Int.natAbs_mul, show (1000000 : Int).natAbs = 1000000 from rfl] at h2
  obtain ⟨T, hT⟩ : ∃ T, n.tdiv d * 1000 + (n.tmod d * 1000).tdiv d = T := ⟨_, rfl⟩
  rw [hT] at h h1
  obtain ⟨Q, hQ⟩ : ∃ Q, quot (n * 1000000) d m = Q := ⟨_, rfl⟩
  rw [hQ] at h2 ⊢
  obtain ⟨K, hK⟩ : ∃ K, n.natAbs * 1000000 / d.natAbs = K := ⟨_, rfl⟩
  rw [hK] at h1 h2
  clear hT hQ hK
  have h3 := h2.1
  clear h2
  unfold beyond at h ⊢
  simp only [Bool.or_eq_true, decide_eq_true_eq] at h ⊢
  omega
end Go.Proofs.Ytnboimaocmeojaa.money
