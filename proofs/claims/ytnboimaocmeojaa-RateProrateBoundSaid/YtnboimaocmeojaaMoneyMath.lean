/-
  Plain mathematics of package money: quotients rounded, products divided, sums. No program text.
-/
import Derived.Test.YtnboimaocmeojaaMoneySpec
namespace Go.Proofs.Ytnboimaocmeojaa.money
set_option linter.unusedVariables false

theorem beyond_abs {n most : Int} (h : beyond n most = false) : (n.natAbs : Int) ≤ most := by
  unfold beyond at h; simp at h; omega
theorem beyond_in {n most : Int} (h : beyond n most = false) : -most ≤ n ∧ n ≤ most := by
  unfold beyond at h; simp at h; omega
theorem up5 (q r d : Int) (neg : Bool) : up q r d neg 5 = (decide (d - r < r) || (decide (r = d - r) && decide (q % 2 = 1))) := rfl
theorem up_zero (d : Int) (hd : 0 < d) (neg : Bool) (m : Int) : up 0 0 d neg m = false := by
  unfold up
  have h1 : ¬ (d - 0 ≤ 0) := by omega
  have h2 : ¬ (d - 0 < 0) := by omega
  have h3 : ¬ ((0 : Int) = d - 0) := by omega
  simp only [decide_eq_false h1, decide_eq_false h2, decide_eq_false h3]
  cases neg <;> simp
theorem rnd_zero (d : Int) (hd : 0 < d) (neg : Bool) (m : Int) : rnd 0 0 d neg m = 0 := by
  unfold rnd mag; rw [up_zero d hd]; cases neg <;> rfl
theorem rnd_abs (q r d : Int) (neg : Bool) (m : Int) (hq : 0 ≤ q) : q ≤ (rnd q r d neg m).natAbs ∧ ((rnd q r d neg m).natAbs : Int) ≤ q + 1 := by
  have := mag_bounds q r d neg m
  unfold rnd
  cases neg
  · simp only [Bool.false_eq_true, if_false]; omega
  · simp only [if_true]; omega
/-- rounding a quotient that has no rest -/
theorem up_rest (q r d : Int) (hd : 0 < d) (hr : r = 0) (neg : Bool) (m : Int) : up q r d neg m = false := by
  subst hr
  unfold up
  have h1 : ¬ (d - 0 ≤ 0) := by omega
  have h2 : ¬ (d - 0 < 0) := by omega
  have h3 : ¬ ((0 : Int) = d - 0) := by omega
  simp only [decide_eq_false h1, decide_eq_false h2, decide_eq_false h3]
  cases neg <;> simp
theorem scaled_le (c u m : Int) (hc : (c.natAbs : Int) ≤ 1000000000000000) (hu0 : 1 ≤ u) (hu : u ≤ 1000000000000000) :
    -2000000000000000 ≤ quot c u m * u ∧ quot c u m * u ≤ 2000000000000000 := by
  obtain ⟨k, hk⟩ : ∃ k : Nat, u = k := ⟨u.toNat, by omega⟩
  subst hk
  have h := rnd_abs (c.natAbs / k : Nat) (c.natAbs % k : Nat) k (decide (c < 0) != decide ((k : Int) < 0)) m (Int.natCast_nonneg _)
  have e : quot c k m = rnd (c.natAbs / k : Nat) (c.natAbs % k : Nat) k (decide (c < 0) != decide ((k : Int) < 0)) m := rfl
  rw [← e] at h
  obtain ⟨z, hz⟩ : ∃ z, quot c k m = z := ⟨_, rfl⟩
  rw [hz] at h ⊢
  have h1 : z.natAbs ≤ c.natAbs / k + 1 := by omega
  have h2 : z.natAbs * k ≤ (c.natAbs / k + 1) * k := Nat.mul_le_mul_right _ h1
  have h3 : c.natAbs / k * k ≤ c.natAbs := Nat.div_mul_le_self _ _
  have h4 : (c.natAbs / k + 1) * k = c.natAbs / k * k + k := by rw [Nat.add_mul, Nat.one_mul]
  have h5 : (z * (k : Int)).natAbs = z.natAbs * k := by rw [Int.natAbs_mul]; rfl
  omega
theorem split_mul (a x b : Nat) (hb : 0 < b) : a / b * x + a % b * x / b = a * x / b ∧ a % b * x % b = a * x % b := by
  have h : a * x = a % b * x + b * (a / b * x) := by
    have := Nat.div_add_mod a b
    calc a * x = (b * (a / b) + a % b) * x := by rw [this]
      _ = a % b * x + b * (a / b * x) := by rw [Nat.add_mul, Nat.mul_assoc, Nat.add_comm]
  constructor
  · rw [h, Nat.add_mul_div_left _ _ hb, Nat.add_comm]
  · rw [h, Nat.add_mul_mod_self_left]
theorem quot_mul (c x d m : Int) (hd : d ≠ 0) : quot (c * x) d m = rnd (c.natAbs * x.natAbs / d.natAbs : Nat) (c.natAbs * x.natAbs % d.natAbs : Nat) d.natAbs ((decide (c < 0) != decide (x < 0)) != decide (d < 0)) m := by
  unfold quot
  rw [Int.natAbs_mul]
  by_cases hc : c = 0
  · subst hc
    simp only [Int.natAbs_zero, Nat.zero_mul, Nat.zero_div, Nat.zero_mod]
    rw [show ((0 : Nat) : Int) = 0 by rfl, rnd_zero _ (by omega), rnd_zero _ (by omega)]
  · by_cases hx : x = 0
    · subst hx
      simp only [Int.natAbs_zero, Nat.mul_zero, Nat.zero_div, Nat.zero_mod]
      rw [show ((0 : Nat) : Int) = 0 by rfl, rnd_zero _ (by omega), rnd_zero _ (by omega)]
    · have e : decide (c * x < 0) = (decide (c < 0) != decide (x < 0)) := by
        rcases Int.lt_or_gt_of_ne hc with h1 | h1
        · rcases Int.lt_or_gt_of_ne hx with h2 | h2
          · have h3 : ¬ c * x < 0 := by have := Int.mul_pos_of_neg_of_neg h1 h2; omega
            rw [decide_eq_true h1, decide_eq_true h2, decide_eq_false h3]; rfl
          · have h3 := Int.mul_neg_of_neg_of_pos h1 h2
            have h4 : ¬ x < 0 := by omega
            rw [decide_eq_true h1, decide_eq_false h4, decide_eq_true h3]; rfl
        · have h5 : ¬ c < 0 := by omega
          rcases Int.lt_or_gt_of_ne hx with h2 | h2
          · have h3 := Int.mul_neg_of_pos_of_neg h1 h2
            rw [decide_eq_true h2, decide_eq_false h5, decide_eq_true h3]; rfl
          · have h3 : ¬ c * x < 0 := by have := Int.mul_pos h1 h2; omega
            have h4 : ¬ x < 0 := by omega
            rw [decide_eq_false h5, decide_eq_false h4, decide_eq_false h3]; rfl
      rw [e]
theorem quot_big {c x d m : Int} (hd : d ≠ 0) (h : 1000000000000000 < (c.natAbs * x.natAbs / d.natAbs : Nat)) : beyond (quot (c * x) d m) 1000000000000000 = true := by
  rw [quot_mul c x d m hd]
  have := rnd_abs (c.natAbs * x.natAbs / d.natAbs : Nat) (c.natAbs * x.natAbs % d.natAbs : Nat) d.natAbs ((decide (c < 0) != decide (x < 0)) != decide (d < 0)) m (Int.natCast_nonneg _)
  unfold beyond
  simp only [Bool.or_eq_true, decide_eq_true_eq]
  omega
/-- the two quotients of the early test -/
theorem early {a x b : Nat} (hx : 0 < x) (hb : 0 < b) : (1000000000000000 / x < a / b → 1000000000000000 < a * x / b) ∧ (a / b ≤ 1000000000000000 / x → a / b * x ≤ 1000000000000000) := by
  obtain ⟨h1, _⟩ := split_mul a x b hb
  refine ⟨fun h => ?_, fun h => ?_⟩
  · have h2 : 1000000000000000 < a / b * x := (Nat.div_lt_iff_lt_mul hx).1 h
    rw [← h1]; exact Nat.lt_of_lt_of_le h2 (Nat.le_add_right _ _)
  · exact (Nat.le_div_iff_mul_le hx).1 h
theorem mulR_mode {c n d m : Int} (h : okMode m = false) : mulR c n d m = (0, 1) := by unfold mulR; rw [h]; rfl
theorem mulR_zero {c n d m : Int} (h : okMode m = true) (hd : d = 0) : mulR c n d m = (0, 12) := by unfold mulR; rw [h, if_neg (by decide), if_pos hd]
theorem mulR_out {c n d m : Int} (h : okMode m = true) (hd : ¬ d = 0) (hb : (beyond c 1000000000000000 || beyond n 1000000000 || beyond d 1000000000) = true) : mulR c n d m = (0, 3) := by
  unfold mulR; rw [h, if_neg (by decide), if_neg hd, if_pos hb]
theorem mulR_in {c n d m : Int} (h : okMode m = true) (hd : ¬ d = 0) (hb : (beyond c 1000000000000000 || beyond n 1000000000 || beyond d 1000000000) = false) :
    mulR c n d m = if beyond (quot (c * n) d m) 1000000000000000 then (0, 3) else (quot (c * n) d m, 0) := by
  unfold mulR; rw [h, if_neg (by decide), if_neg hd, hb, if_neg (by decide)]
theorem drop_at {l : List Int} {i : Nat} {z : Int} (h : l[i]? = some z) : l.drop i = z :: l.drop (i + 1) := by
  obtain ⟨hl, he⟩ := List.getElem?_eq_some_iff.1 h
  rw [List.drop_eq_getElem_cons hl, he]
theorem rnd_whole (q d : Int) (hd : 0 < d) (neg : Bool) (m : Int) : rnd q 0 d neg m = if neg then -q else q := by
  unfold rnd mag; rw [up_rest q 0 d hd rfl]; rfl
theorem quot_whole (q u m : Int) (hu : 1 ≤ u) : quot (q * u) u m = q := by
  have hun : 0 < u.natAbs := by omega
  unfold quot
  rw [Int.natAbs_mul, Nat.mul_div_cancel _ hun, Nat.mul_mod_left]
  have h := rnd_whole ((q.natAbs : Nat) : Int) (u.natAbs : Nat) (by omega) (decide (q * u < 0) != decide (u < 0)) m
  rw [show (((0 : Nat) : Int)) = 0 from rfl, h]
  have hu0 : decide (u < 0) = false := by simp; omega
  rw [hu0]
  by_cases hq : q < 0
  · have : q * u < 0 := Int.mul_neg_of_neg_of_pos hq (by omega)
    rw [show decide (q * u < 0) = true by simpa using this]
    simp; omega
  · have : ¬ q * u < 0 := Int.not_lt.2 (Int.mul_nonneg (by omega) (by omega))
    rw [show decide (q * u < 0) = false by simpa using this]
    simp; omega
/-- rounding a second time changes nothing -/
theorem roundR_again {x u m a : Int} (h : roundR x u m = (a, 0)) : roundR a u m = (a, 0) := by
  unfold roundR at h ⊢
  by_cases h1 : okMode m = true
  · rw [h1] at h ⊢
    rw [if_neg (by decide)] at h ⊢
    by_cases h2 : u < 1
    · rw [if_pos h2] at h; cases h
    · rw [if_neg h2] at h ⊢
      by_cases h3 : (beyond x 1000000000000000 || decide (1000000000000000 < u)) = true
      · rw [if_pos h3] at h; cases h
      · rw [if_neg h3] at h
        by_cases h4 : beyond (quot x u m * u) 1000000000000000 = true
        · rw [if_pos h4] at h; cases h
        · rw [if_neg h4] at h
          simp only [Prod.mk.injEq, and_true] at h
          have h5 : decide (1000000000000000 < u) = false := by
            rw [Bool.or_eq_true, not_or] at h3; simpa using h3.2
          have h6 : beyond a 1000000000000000 = false := by rw [← h]; simpa using h4
          rw [h6, h5, if_neg (by decide)]
          rw [show quot a u m = quot x u m by rw [← h, quot_whole _ _ _ (by omega)], h, h6, if_neg (by decide)]
  · have h1 : okMode m = false := by simpa using h1
    rw [h1, if_pos (by decide)] at h; cases h
theorem sumFrom_err (t : Int) (l : List Int) : (sumFrom t l).2 = 0 ∨ sumFrom t l = (0, 3) := by
  induction l generalizing t with
  | nil => exact .inl rfl
  | cons x l ih =>
    rw [sumFrom]
    split
    · exact .inr rfl
    · exact ih _
theorem sumFrom_snoc (t : Int) (l : List Int) (n : Int) : sumFrom t (l ++ [n]) = if (sumFrom t l).2 = 0 then (if beyond n 1000000000000000 || beyond ((sumFrom t l).1 + n) 1000000000000000 then (0, 3) else ((sumFrom t l).1 + n, 0)) else (0, 3) := by
  induction l generalizing t with
  | nil => simp [sumFrom]
  | cons x l ih =>
    rw [List.cons_append, sumFrom, sumFrom]
    split
    · rfl
    · exact ih _
theorem quot_form (n d m : Int) : quot n d m = rnd (n.natAbs / d.natAbs : Nat) (n.natAbs % d.natAbs : Nat) d.natAbs (decide (n < 0) != decide (d < 0)) m := rfl
theorem rnd_floor (q r d : Int) (neg : Bool) : rnd q r d neg 0 = if neg then (if 0 < r then -(q + 1) else -q) else q := by
  unfold rnd mag up; cases neg <;> simp
  split <;> rfl
theorem rnd_ceil (q r d : Int) (neg : Bool) : rnd q r d neg 1 = if neg then -q else (if 0 < r then q + 1 else q) := by
  unfold rnd mag up; cases neg <;> simp
theorem rnd_between (q r d : Int) (neg : Bool) (m : Int) (hd : 0 < d) (hr : 0 ≤ r) : rnd q r d neg 0 ≤ rnd q r d neg m ∧ rnd q r d neg m ≤ rnd q r d neg 1 := by
  rw [rnd_floor, rnd_ceil]
  by_cases h0 : r = 0
  · subst h0
    rw [rnd_whole q d hd]
    cases neg <;> simp
  · have hp : 0 < r := by omega
    have := mag_bounds q r d neg m
    unfold rnd
    cases neg <;> simp [hp] <;> omega
theorem rnd_apart (q r d : Int) (neg : Bool) (hr : 0 ≤ r) : rnd q r d neg 1 - rnd q r d neg 0 = if r = 0 then 0 else 1 := by
  rw [rnd_floor, rnd_ceil]
  by_cases h0 : r = 0
  · subst h0; cases neg <;> simp
  · have hp : 0 < r := by omega
    cases neg <;> simp [hp, h0] <;> omega
theorem up_even (q r d : Int) (neg neg' : Bool) (m : Int) (h0 : m ≠ 0) (h1 : m ≠ 1) : up q r d neg m = up q r d neg' m := by
  unfold up; rw [if_neg h0, if_neg h1, if_neg h0, if_neg h1]
theorem rnd_turn (q r d : Int) (neg : Bool) (m : Int) : rnd q r d (!neg) m = -(if m = 0 then rnd q r d neg 1 else if m = 1 then rnd q r d neg 0 else rnd q r d neg m) := by
  by_cases h0 : m = 0
  · subst h0
    rw [if_pos rfl, rnd_floor, rnd_ceil]
    cases neg <;> simp
    split <;> rfl
  · by_cases h1 : m = 1
    · subst h1
      rw [if_neg (by decide), if_pos rfl, rnd_floor, rnd_ceil]
      cases neg <;> simp
      split <;> omega
    · rw [if_neg h0, if_neg h1]
      unfold rnd mag
      rw [up_even q r d (!neg) neg m h0 h1]
      cases neg <;> simp
theorem quot_between (n d m : Int) (hd : d ≠ 0) : quot n d 0 ≤ quot n d m ∧ quot n d m ≤ quot n d 1 :=
  rnd_between _ _ _ _ _ (by omega) (Int.natCast_nonneg _)
theorem quot_apart (n d : Int) (hd : d ≠ 0) : quot n d 1 - quot n d 0 = if n.tmod d = 0 then 0 else 1 := by
  have h := rnd_apart (n.natAbs / d.natAbs : Nat) (n.natAbs % d.natAbs : Nat) d.natAbs (decide (n < 0) != decide (d < 0)) (Int.natCast_nonneg _)
  rw [quot_form, quot_form, h]
  have e : (((n.natAbs % d.natAbs : Nat) : Int) = 0) ↔ n.tmod d = 0 := by
    rw [← Int.natAbs_eq_zero (a := n.tmod d), Int.natAbs_tmod]; omega
  by_cases g : n.tmod d = 0
  · rw [if_pos g, if_pos (e.2 g)]
  · rw [if_neg g, if_neg (fun x => g (e.1 x))]
theorem quot_turn (n d m : Int) (hd : d ≠ 0) : quot (-n) d m = -(if m = 0 then quot n d 1 else if m = 1 then quot n d 0 else quot n d m) := by
  by_cases hn : n = 0
  · subst hn
    have z : ∀ m, quot 0 d m = 0 := fun m => by
      unfold quot
      rw [Int.natAbs_zero, Nat.zero_div, Nat.zero_mod]
      exact rnd_zero _ (by omega) _ _
    rw [Int.neg_zero, z, z, z]; simp
  · rw [quot_form, quot_form, quot_form, quot_form, ← rnd_turn, Int.natAbs_neg]
    have e : (decide (-n < 0) != decide (d < 0)) = !(decide (n < 0) != decide (d < 0)) := by
      by_cases h : n < 0
      · rw [decide_eq_true h, decide_eq_false (by omega : ¬ -n < 0)]; cases decide (d < 0) <;> rfl
      · rw [decide_eq_false h, decide_eq_true (by omega : -n < 0)]; cases decide (d < 0) <;> rfl
    rw [e]
theorem quot_small (n d m : Int) (hn : beyond n 4611686018427387904 = false) : -4611686018427387905 ≤ quot n d m ∧ quot n d m ≤ 4611686018427387905 := by
  have h := rnd_abs (n.natAbs / d.natAbs : Nat) (n.natAbs % d.natAbs : Nat) d.natAbs (decide (n < 0) != decide (d < 0)) m (Int.natCast_nonneg _)
  have h2 := Nat.div_le_self n.natAbs d.natAbs
  have h3 := beyond_abs hn
  rw [quot_form]
  omega
theorem divR_ok {n d m : Int} (hm : 0 ≤ m ∧ m ≤ 5) (hd : d ≠ 0) (h : (beyond n 4611686018427387904 || beyond d 4611686018427387904) = false) : divR n d m = (quot n d m, 0) := by
  have : okMode m = true := by unfold okMode; simp; omega
  unfold divR
  rw [this, if_neg (by decide), if_neg hd, h, if_neg (by decide)]
theorem beyond_neg (n k : Int) : beyond (-n) k = beyond n k := by
  unfold beyond
  rw [Bool.eq_iff_iff]
  simp only [Bool.or_eq_true, decide_eq_true_eq]
  omega
end Go.Proofs.Ytnboimaocmeojaa.money
