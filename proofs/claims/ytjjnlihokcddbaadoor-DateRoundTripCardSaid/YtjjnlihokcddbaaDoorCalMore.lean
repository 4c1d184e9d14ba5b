/-
  More plain mathematics of the calendar: months and years added, and the number of full years. No program text.
-/
import Derived.Test.YtjjnlihokcddbaaDoorCal
namespace Go.Proofs.YtjjnlihokcddbaaDoor.cal
open Go
set_option linter.unusedVariables false

theorem from_code (y m d : Int) : fromR y m d = (0, 3) ∨ ∃ n, fromR y m d = (n, 0) := by
  unfold fromR
  split
  · exact .inl rfl
  · exact .inr ⟨_, rfl⟩
theorem add_code (a n : Int) : addR a n = (0, 3) ∨ ∃ x, addR a n = (x, 0) := by
  unfold addR
  split
  · exact from_code _ _ _
  · exact .inl rfl
/-- a year or more later is later -/
theorem add_later {a n x : Int} (h : addR a n = (x, 0)) (hn : 12 ≤ n) : a < x := by
  unfold addR at h
  by_cases g : okD a = true
  · rw [g] at h
    by_cases g2 : (decide (-3600 ≤ n) && decide (n ≤ 3600)) = true
    · rw [g2] at h
      simp only [Bool.and_self, if_true] at h
      obtain ⟨I, y0, -⟩ := from_ok h
      have A := Is.of a g
      have r1 := A.rest
      have r2 := I.rest
      have hk : kOf a + 1 ≤ ((12 * (1900 + (kOf a : Int)) + jOf a + n) / 12 - 1900).toNat := by
        have := A.j1
        omega
      have := dby_le hk
      have s := dby_step (kOf a)
      omega
    · rw [Bool.not_eq_true] at g2
      rw [g2] at h
      simp at h
  · rw [Bool.not_eq_true] at g
    rw [g] at h
    simp at h
theorem more_iff (a b : Int) (n : Nat) : more a b n = true ↔ ∃ x, addR a (12 * (n : Int) + 12) = (x, 0) ∧ x ≤ b := by
  unfold more
  rw [show 12 * ((n : Int) + 1) = 12 * (n : Int) + 12 by omega]
  rcases add_code a (12 * (n : Int) + 12) with h | ⟨x, h⟩ <;> rw [h] <;> simp
theorem yb_turned {a b : Int} (h : b < a) : ybR a b = 0 := by
  unfold ybR
  split
  · have hm : more a b 0 = false := by
      cases hm : more a b 0
      · rfl
      · obtain ⟨x, h1, h2⟩ := (more_iff a b 0).1 hm
        have := add_later h1 (by omega)
        omega
    simp [ybF, hm]
  · rfl
theorem yb_out {a b : Int} (h : a < 0 ∨ 109572 < b) : ybR a b = 0 := by
  unfold ybR
  rw [if_neg]
  intro g
  have g1 := Bool.and_eq_true_iff.1 g
  have ga := (okD_iff a).1 g1.1
  have gb := (okD_iff b).1 g1.2
  omega
theorem yb_ann {a b : Int} (ha : 0 ≤ a) (hb : b ≤ 109572) (hab : a ≤ b) : ∃ n x : Int, ybR a b = n ∧ 0 ≤ n ∧ n ≤ 300 ∧ addR a (12 * n) = (x, 0) ∧ x ≤ b ∧
    (addR a (12 * n + 12) = (0, 3) ∨ ∃ y, addR a (12 * n + 12) = (y, 0) ∧ b < y) := by
  have oa : okD a = true := (okD_iff a).2 ⟨ha, by omega⟩
  have ob : okD b = true := (okD_iff b).2 ⟨by omega, hb⟩
  obtain ⟨-, h2, h3, h4⟩ := ybF_spec a b 301 0 rfl
  obtain ⟨N, hN⟩ : ∃ N, ybF a b 301 0 = N := ⟨_, rfl⟩
  rw [hN] at h2 h3 h4
  have hx : ∃ x, addR a (12 * (N : Int)) = (x, 0) ∧ x ≤ b := by
    rcases N with _ | p
    · exact ⟨a, add_zero oa, hab⟩
    · obtain ⟨x, e1, e2⟩ := (more_iff a b p).1 (h4 p (Nat.zero_le _) (Nat.lt_succ_self _))
      exact ⟨x, by rw [← e1]; congr 1, e2⟩
  obtain ⟨x, e1, e2⟩ := hx
  refine ⟨N, x, by unfold ybR; rw [oa, ob, hN]; rfl, by omega, by simp at h2; omega, e1, e2, ?_⟩
  have hm := h3 (by decide)
  rcases add_code a (12 * (N : Int) + 12) with h | ⟨y, h⟩
  · exact .inl h
  · refine .inr ⟨y, h, ?_⟩
    rcases Int.lt_or_le b y with g | g
    · exact g
    · rw [(more_iff a b N).2 ⟨y, h, g⟩] at hm; cases hm

/-- years added while they stay within the calendar -/
theorem add_years {a : Int} (ha : okD a = true) (n : Nat) (hn : kOf a + n < 300) : ∃ x d, addR a (12 * (n : Int)) = (x, 0) ∧ Is x (kOf a + n) (jOf a) d := by
  have I := Is.of a ha
  have j1 := I.j1
  obtain ⟨g, hg⟩ : ∃ g, dim (1900 + ((kOf a + n : Nat) : Int)) ((jOf a : Int) + 1) = g := ⟨_, rfl⟩
  have g0 := dim_pos (y := 1900 + ((kOf a + n : Nat) : Int)) (m := (jOf a : Int) + 1) (by omega) (by omega)
  have d0 := I.d0
  have X : Is (dby (kOf a + n) + cum (1900 + ((kOf a + n : Nat) : Int)) (jOf a) + (min (dOf a) g - 1)) (kOf a + n) (jOf a) (min (dOf a) g) :=
    ⟨hn, j1, by omega, by omega, rfl⟩
  refine ⟨_, _, ?_, X⟩
  unfold addR
  rw [ha, show decide (-3600 ≤ 12 * (n : Int)) = true by simp; omega, show decide (12 * (n : Int) ≤ 3600) = true by simp; omega]
  simp only [Bool.and_self, if_true]
  have e1 : (12 * (1900 + (kOf a : Int)) + (jOf a : Int) + 12 * (n : Int)) / 12 = 1900 + ((kOf a + n : Nat) : Int) := by omega
  have e2 : (12 * (1900 + (kOf a : Int)) + (jOf a : Int) + 12 * (n : Int)) % 12 + 1 = (jOf a : Int) + 1 := by omega
  rw [e1, e2, hg]
  exact X.from
theorem add_over {a x : Int} (ha : okD a = true) (n : Nat) (h : addR a (12 * (n : Int)) = (x, 0)) : kOf a + n < 300 := by
  have I := Is.of a ha
  have j1 := I.j1
  unfold addR at h
  split at h
  · obtain ⟨J, y0, m0⟩ := from_ok h
    have := J.k1
    have e1 : (12 * (1900 + (kOf a : Int)) + (jOf a : Int) + 12 * (n : Int)) / 12 = 1900 + ((kOf a + n : Nat) : Int) := by omega
    rw [e1] at this
    omega
  · cases h
theorem k_le {x b : Int} {k j k' j' : Nat} {d d' : Int} (h : Is x k j d) (h' : Is b k' j' d') (hle : x ≤ b) : k ≤ k' := by
  rcases Nat.lt_or_ge k' k with g | g
  · have r1 := h.rest
    have r2 := h'.rest
    have := dby_le (show k' + 1 ≤ k from g)
    have s := dby_step k'
    omega
  · exact g
/-- the full years by way of the anniversary in the later date's year -/
theorem yb_by {a b : Int} (ha : okD a = true) (hb : okD b = true) (hab : a ≤ b) :
    kOf a ≤ kOf b ∧ ∃ x, addR a (12 * ((kOf b : Int) - kOf a)) = (x, 0) ∧ ybR a b = (if b < x then (kOf b : Int) - kOf a - 1 else (kOf b : Int) - kOf a) := by
  have A := Is.of a ha
  have B := Is.of b hb
  have hk := k_le A B hab
  have b1 := B.k1
  refine ⟨hk, ?_⟩
  obtain ⟨a0, -⟩ := (okD_iff a).1 ha
  obtain ⟨-, b9⟩ := (okD_iff b).1 hb
  obtain ⟨K, hK⟩ : ∃ K : Nat, kOf b = kOf a + K := ⟨kOf b - kOf a, by omega⟩
  obtain ⟨x, d, hx, X⟩ := add_years ha K (by omega)
  rw [show (kOf b : Int) - kOf a = (K : Int) by omega]
  refine ⟨x, hx, ?_⟩
  obtain ⟨n, z, e1, e2, e3, e4, e5, e6⟩ := yb_ann a0 b9 hab
  obtain ⟨N, rfl⟩ : ∃ N : Nat, n = N := ⟨n.toNat, by omega⟩
  have hN := add_over ha N e4
  obtain ⟨z', dz, hz', Z⟩ := add_years ha N hN
  obtain rfl : z' = z := by rw [e4] at hz'; cases hz'; rfl
  have h1 := k_le Z B e5
  rw [e1]
  by_cases hNK : N = K
  · subst hNK
    obtain rfl : z' = x := by rw [e4] at hx; cases hx; rfl
    rw [if_neg (by omega)]
  · have hlt : N + 1 ≤ K := by omega
    obtain ⟨y, dy, hy, Y⟩ := add_years ha (N + 1) (by omega)
    rw [show 12 * ((N + 1 : Nat) : Int) = 12 * (N : Int) + 12 by omega] at hy
    rcases e6 with e6 | ⟨y', e6, e7⟩
    · rw [hy] at e6; cases e6
    · obtain rfl : y = y' := by rw [hy] at e6; cases e6; rfl
      have h2 := k_le B Y (by omega)
      obtain rfl : K = N + 1 := by omega
      rw [show 12 * ((N + 1 : Nat) : Int) = 12 * (N : Int) + 12 by omega, hy] at hx
      cases hx
      rw [if_pos e7]
      omega
end Go.Proofs.YtjjnlihokcddbaaDoor.cal
