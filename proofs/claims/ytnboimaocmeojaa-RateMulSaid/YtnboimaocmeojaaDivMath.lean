/-
  Plain mathematics of a long division by two digits: a digit that is guessed from the divisor's first digit, and put right. No program text.
-/
import Derived.Lib.Hide
namespace Go.Proofs.Ytnboimaocmeojaa.div64

/-- the guessed digit q with its rest r: U is the dividend's front, A the divisor's first digit, t the true digit -/
def Guess (U A t q r : Nat) : Prop := q * A + r = U ∧ t ≤ q ∧ q ≤ 4294967297 ∧ r < 4294967296

theorem back {U A q r C : Nat} (h : q * A + r = U) : q * (A * 4294967296 + C) + 4294967296 * r = U * 4294967296 + q * C := by
  subst h
  rw [Nat.mul_add, Nat.add_mul, ← Nat.mul_assoc]
  omega
/-- the guess is too great: one less, and the rest grows -/
theorem guess_more {U A C Y d t q r : Nat} (hY : A * 4294967296 + C = Y) (hA : 2147483648 ≤ A) (hC : C < 4294967296) (hd : d < 4294967296) (ht : (U * 4294967296 + d) / Y = t) (htb : t < 4294967296) (h : Guess U A t q r)
    (hm : 4294967296 ≤ q ∨ 4294967296 * r + d < q * C) : ∃ p, q = p + 1 ∧ p * A + (r + A) = U ∧ t ≤ p ∧ p ≤ 4294967296 ∧ (r + A < 4294967296 → Guess U A t p (r + A)) ∧ (4294967296 ≤ r + A → p = t) := by
  obtain ⟨h1, h2, h3, h4⟩ := h
  have hYp : 0 < Y := by omega
  have hlt : t < q := by
    rcases hm with hm | hm
    · omega
    · have hb := back (C := C) h1
      rw [hY] at hb
      have : U * 4294967296 + d < q * Y := by omega
      rw [← ht]
      exact (Nat.div_lt_iff_lt_mul hYp).2 this
  obtain ⟨p, rfl⟩ : ∃ p, q = p + 1 := ⟨q - 1, by omega⟩
  have e : p * A + (r + A) = U := by rw [← h1, Nat.add_mul]; omega
  refine ⟨p, rfl, e, by omega, by omega, fun hr => ⟨e, by omega, by omega, hr⟩, fun hr => ?_⟩
  have hb := back (C := C) e
  rw [hY] at hb
  have hc : p * C ≤ 4294967296 * C := Nat.mul_le_mul_right _ (by omega)
  have hle : p ≤ t := by
    rw [← ht]
    exact (Nat.le_div_iff_mul_le hYp).2 (by omega)
  omega
/-- the guess is right -/
theorem guess_done {U A C Y d t q r : Nat} (hY : A * 4294967296 + C = Y) (hA : 2147483648 ≤ A) (ht : (U * 4294967296 + d) / Y = t) (h : Guess U A t q r)
    (hm : ¬ 4294967296 * r + d < q * C) : q = t := by
  obtain ⟨h1, h2, h3, h4⟩ := h
  have hYp : 0 < Y := by omega
  have hb := back (C := C) h1
  rw [hY] at hb
  have hle : q ≤ t := by
    rw [← ht]
    exact (Nat.le_div_iff_mul_le hYp).2 (by omega)
  omega
/-- the first guess -/
theorem guess_first {U A C Y d t : Nat} (hY : A * 4294967296 + C = Y) (hA : 2147483648 ≤ A) (hA2 : A < 4294967296) (hC : C < 4294967296) (hd : d < 4294967296) (hU : U < Y) (ht : (U * 4294967296 + d) / Y = t) :
    Guess U A t (U / A) (U % A) ∧ t < 4294967296 := by
  have hYp : 0 < Y := by omega
  have htb : t < 4294967296 := by
    rw [← ht]
    refine (Nat.div_lt_iff_lt_mul hYp).2 ?_
    have : (U + 1) * 4294967296 ≤ Y * 4294967296 := Nat.mul_le_mul_right _ hU
    omega
  refine ⟨⟨by rw [Nat.mul_comm]; exact Nat.div_add_mod U A, ?_, ?_, Nat.lt_trans (Nat.mod_lt _ (by omega)) hA2⟩, htb⟩
  · refine (Nat.le_div_iff_mul_le (by omega)).2 ?_
    have h1 : t * Y ≤ U * 4294967296 + d := by rw [← ht]; exact Nat.div_mul_le_self _ _
    rw [← hY, Nat.mul_add, ← Nat.mul_assoc] at h1
    have h2 : t * A * 4294967296 < (U + 1) * 4294967296 := by omega
    have h3 := Nat.lt_of_mul_lt_mul_right h2
    omega
  · have h1 : U / A * A ≤ U := Nat.div_mul_le_self _ _
    have h2 : U < (4294967296 + 2) * A := by omega
    have := (Nat.div_lt_iff_lt_mul (by omega)).2 h2
    omega

/-- what is left of the front after a digit -/
theorem rest_of {U Y d t : Nat} (ht : (U * 4294967296 + d) / Y = t) : t * Y + (U * 4294967296 + d) % Y = U * 4294967296 + d := by
  rw [← ht, Nat.mul_comm]; exact Nat.div_add_mod _ _
/-- the two digits make the whole, and the rest scaled back is the rest -/
theorem whole {b bb hi lo y k U L d1 d0 t p : Nat} (hbb : b * b = bb) (hk : 0 < k) (hy : 0 < y) (hN : (hi * bb + lo) * k = U * bb + L) (hL : d1 * b + d0 = L)
    (ht : (U * b + d1) / (y * k) = t) (hp : ((U * b + d1) % (y * k) * b + d0) / (y * k) = p) :
    (hi * bb + lo) / y = t * b + p ∧ ((U * b + d1) % (y * k) * b + d0) % (y * k) / k = (hi * bb + lo) % y := by
  have h1 : t * (y * k) + (U * b + d1) % (y * k) = U * b + d1 := by rw [← ht, Nat.mul_comm]; exact Nat.div_add_mod _ _
  have h2 : p * (y * k) + ((U * b + d1) % (y * k) * b + d0) % (y * k) = (U * b + d1) % (y * k) * b + d0 := by rw [← hp, Nat.mul_comm]; exact Nat.div_add_mod _ _
  obtain ⟨N, hNn⟩ : ∃ N, hi * bb + lo = N := ⟨_, rfl⟩
  obtain ⟨V, hV⟩ : ∃ V, (U * b + d1) % (y * k) = V := ⟨_, rfl⟩
  obtain ⟨R, hR⟩ : ∃ R, (V * b + d0) % (y * k) = R := ⟨_, rfl⟩
  rw [hV] at h1 h2
  rw [hR] at h2
  rw [hNn] at hN
  rw [hNn, hV, hR]
  have hRb : R < y * k := by rw [← hR]; exact Nat.mod_lt _ (Nat.mul_pos hy hk)
  have e : N * k = (t * b + p) * (y * k) + R := by
    have h3 : U * bb + L = (U * b + d1) * b + d0 := by rw [Nat.add_mul, Nat.mul_assoc, hbb, ← hL]; omega
    rw [hN, h3, ← h1, Nat.add_mul, Nat.add_mul, Nat.mul_right_comm, Nat.add_assoc, ← h2]; omega
  have hq : N / y = t * b + p := by
    have h3 : N * k / (y * k) = N / y := Nat.mul_div_mul_right _ _ hk
    rw [← h3, e, Nat.mul_comm (t * b + p), Nat.mul_add_div (Nat.mul_pos hy hk), Nat.div_eq_of_lt hRb]; omega
  refine ⟨hq, ?_⟩
  have h4 : R = N % y * k := by
    have h5 := Nat.div_add_mod N y
    rw [hq] at h5
    have h6 : N * k = (y * (t * b + p) + N % y) * k := by rw [h5]
    rw [Nat.add_mul, Nat.mul_right_comm, Nat.mul_comm (y * k)] at h6
    omega
  rw [h4, Nat.mul_div_cancel _ hk]
end Go.Proofs.Ytnboimaocmeojaa.div64
