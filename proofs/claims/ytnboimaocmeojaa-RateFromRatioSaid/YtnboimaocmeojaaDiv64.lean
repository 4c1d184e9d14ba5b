/-
  What math/bits.Div64 answers, for every dividend of two words and every divisor that is greater than the first of them.
-/
import Derived.Test.YtnboimaocmeojaaDivW
import Derived.RegionTactic
namespace Go.Proofs.Ytnboimaocmeojaa.div64
open Go Go.RowKit Go.Proofs.Ytnboimaocmeojaa.money
set_option linter.unusedVariables false

theorem bitLen_aux : ∀ (f x : Nat), x < 2 ^ f → x < 2 ^ (Lib.bitLenAux f x) ∧ (x ≠ 0 → 2 ^ (Lib.bitLenAux f x) ≤ 2 * x) ∧ Lib.bitLenAux f x ≤ f
  | 0, x, h => by
    have : x = 0 := by simpa using h
    subst this; simp [Lib.bitLenAux]
  | f + 1, x, h => by
    by_cases h0 : x = 0
    · subst h0; simp [Lib.bitLenAux]
    · have ih := bitLen_aux f (x / 2) (by rw [Nat.pow_succ] at h; omega)
      simp only [Lib.bitLenAux, if_neg h0]
      obtain ⟨i1, i2, i3⟩ := ih
      rw [Nat.add_comm 1, Nat.pow_succ]
      refine ⟨by omega, fun _ => ?_, by omega⟩
      by_cases h1 : x / 2 = 0
      · have hz : ∀ f, Lib.bitLenAux f 0 = 0 := fun f => by cases f <;> simp [Lib.bitLenAux]
        rw [h1, hz]; simp; omega
      · have := i2 h1; omega

theorem nat_wrap (x : Nat) : IntKind.u64.wrap (x : Int) = ((x % 18446744073709551616 : Nat) : Int) := by rw [IntKind.wrap_u64]; omega
theorem sub_wrap {a b x p : Nat} (ha : x % 18446744073709551616 = a) (hb : p % 18446744073709551616 = b) {v : Nat} (hv : p + v = x) (hlt : v < 18446744073709551616) : IntKind.u64.wrap ((a : Int) - b) = v := by
  rw [IntKind.wrap_u64]; omega

/-- the divisor brought to the front of its word -/
structure Scaled (hi lo y s k Q U L : Nat) : Prop where
  hs : (64 - (Lib.bitLen ((y : Int)).toNat : Int)) = (s : Int)
  s64 : s ≤ 63
  hk : 2 ^ s = k
  k0 : 0 < k
  y0 : 9223372036854775808 ≤ y * k
  y1 : y * k < 18446744073709551616
  hQ : lo / 2 ^ (64 - s) = Q
  Qk : Q < k
  hU : hi * k + Q = U
  Uy : U < y * k
  hL : lo * k % 18446744073709551616 = L
  hN : (hi * 18446744073709551616 + lo) * k = U * 18446744073709551616 + L

theorem scaled {hi lo y : Nat} (hy : y < 18446744073709551616) (hh : hi < y) (hl : lo < 18446744073709551616) : ∃ s k Q U L, Scaled hi lo y s k Q U L := by
  obtain ⟨i1, i2, i3⟩ := bitLen_aux 64 y (by omega)
  obtain ⟨b, hb⟩ : ∃ b, Lib.bitLenAux 64 y = b := ⟨_, rfl⟩
  rw [hb] at i1 i2 i3
  have i2 := i2 (by omega)
  have b1 : 1 ≤ b := by
    rcases Nat.eq_zero_or_pos b with h | h
    · subst h; simp at i1; omega
    · exact h
  have hkb : 2 ^ (64 - b) * 2 ^ b = 18446744073709551616 := by rw [← Nat.pow_add, show 64 - b + b = 64 by omega]
  obtain ⟨k, hk⟩ : ∃ k, 2 ^ (64 - b) = k := ⟨_, rfl⟩
  obtain ⟨m, hm⟩ : ∃ m, 2 ^ b = m := ⟨_, rfl⟩
  have k0 : 0 < k := by rw [← hk]; exact Nat.pow_pos (by omega)
  have m0 : 0 < m := by rw [← hm]; exact Nat.pow_pos (by omega)
  rw [hk, hm] at hkb
  rw [hm] at i1 i2
  have y1 : y * k < 18446744073709551616 := by
    rw [← hkb, Nat.mul_comm k]; exact Nat.mul_lt_mul_of_pos_right i1 k0
  have y0 : 9223372036854775808 ≤ y * k := by
    have : m * k ≤ 2 * y * k := Nat.mul_le_mul_right _ i2
    rw [Nat.mul_comm m, hkb, Nat.mul_assoc] at this; omega
  obtain ⟨Q, hQ⟩ : ∃ Q, lo / m = Q := ⟨_, rfl⟩
  have Qk : Q < k := by rw [← hQ]; exact (Nat.div_lt_iff_lt_mul m0).2 (by rw [hkb]; exact hl)
  have h1 : m * Q + lo % m = lo := by rw [← hQ]; exact Nat.div_add_mod lo m
  have h2 : lo % m * k < 18446744073709551616 := by rw [← hkb, Nat.mul_comm k]; exact Nat.mul_lt_mul_of_pos_right (Nat.mod_lt _ m0) k0
  have h3 : lo * k = Q * 18446744073709551616 + lo % m * k := by
    rw [← hkb]
    have : (m * Q + lo % m) * k = Q * (k * m) + lo % m * k := by rw [Nat.add_mul, Nat.mul_comm m Q, Nat.mul_assoc, Nat.mul_comm m k]
    rw [← this, h1]
  refine ⟨64 - b, k, Q, hi * k + Q, lo * k % 18446744073709551616, ?_, by omega, hk, k0, y0, y1, ?_, Qk, rfl, ?_, rfl, ?_⟩
  · rw [Int.toNat_natCast]
    show (64 - ((Lib.bitLenAux 64 y : Nat) : Int)) = _
    rw [hb]; omega
  · rw [show 64 - (64 - b) = b by omega, hm]; exact hQ
  · have : (hi + 1) * k ≤ y * k := Nat.mul_le_mul_right _ hh
    rw [Nat.add_mul] at this; omega
  · rw [Nat.add_mul, Nat.add_mul, h3, Nat.mul_right_comm]; omega

theorem pow_cast {s k : Nat} (hk : 2 ^ s = k) : (2 : Int) ^ s = (k : Int) := by rw [← hk]; exact (Int.natCast_pow 2 s).symm

set_option maxRecDepth 4000 in
theorem Div64_big (hi lo y : Nat) (w : World) (hy : y < 18446744073709551616) (hh : hi < y) (hl : lo < 18446744073709551616) (h0 : 0 < hi) (qq rr : Nat) (hq : (hi * 18446744073709551616 + lo) / y = qq) (hr : (hi * 18446744073709551616 + lo) % y = rr) :
    Calls Try.prog 35 #[.int .u64 hi, .int .u64 lo, .int .u64 y] w fun e w' => e = .returned (.tuple #[.int .u64 qq, .int .u64 rr]) ∧ w = w' := by
  obtain ⟨s, k, Q, U, L, hs, s64, hk, k0, y0, y1, hQ, Qk, hU, Uy, hL, hN⟩ := scaled hy hh hl
  obtain ⟨Y, hY⟩ : ∃ Y, y * k = Y := ⟨_, rfl⟩
  have hNN := hN
  rw [hY] at y0 y1 Uy
  have hLb : L < 18446744073709551616 := by rw [← hL]; exact Nat.mod_lt _ (by omega)
  obtain ⟨A, hA⟩ : ∃ A, Y / 4294967296 = A := ⟨_, rfl⟩
  obtain ⟨C, hC⟩ : ∃ C, Y % 4294967296 = C := ⟨_, rfl⟩
  obtain ⟨d1, hd1⟩ : ∃ d, L / 4294967296 = d := ⟨_, rfl⟩
  obtain ⟨d0, hd0⟩ : ∃ d, L % 4294967296 = d := ⟨_, rfl⟩
  have hYAC : A * 4294967296 + C = Y := by omega
  have hLd : d1 * 4294967296 + d0 = L := by rw [← hd1, ← hd0, Nat.mul_comm]; exact Nat.div_add_mod L _
  have A0 : 2147483648 ≤ A := by omega
  have A1 : A < 4294967296 := by omega
  have C1 : C < 4294967296 := by omega
  have d1b : d1 < 4294967296 := by omega
  have d0b : d0 < 4294967296 := by omega
  obtain ⟨t1, ht1⟩ : ∃ t, (U * 4294967296 + d1) / Y = t := ⟨_, rfl⟩
  obtain ⟨V, hV⟩ : ∃ V, (U * 4294967296 + d1) % Y = V := ⟨_, rfl⟩
  have hVY : V < Y := by rw [← hV]; exact Nat.mod_lt _ (by omega)
  obtain ⟨t2, ht2⟩ : ∃ t, (V * 4294967296 + d0) / Y = t := ⟨_, rfl⟩
  obtain ⟨R, hR⟩ : ∃ V', (V * 4294967296 + d0) % Y = V' := ⟨_, rfl⟩
  have hRY : R < Y := by rw [← hR]; exact Nat.mod_lt _ (by omega)
  obtain ⟨hg1, tb1⟩ := guess_first hYAC A0 A1 C1 d1b Uy ht1
  obtain ⟨hg2, tb2⟩ := guess_first hYAC A0 A1 C1 d0b hVY ht2
  have w1 := rest_of ht1
  have w2 := rest_of ht2
  rw [hV] at w1
  rw [hR] at w2
  obtain ⟨z1, z2⟩ := whole (b := 4294967296) (bb := 18446744073709551616) (hi := hi) (lo := lo) (y := y) (k := k) (U := U) (L := L) (d1 := d1) (d0 := d0) (t := t1) (p := t2) (by decide) k0 (by omega) hN hLd (by rw [hY]; exact ht1) (by rw [hY, hV]; exact ht2)
  rw [hY, hV, hR] at z2
  have hqq : t1 * 4294967296 + t2 = qq := by rw [← hq, z1]
  have hrr : R / k = rr := by rw [← hr, z2]
  have hUA : U / A * A + U % A = U := by rw [Nat.mul_comm]; exact Nat.div_add_mod U A
  have hVA : V / A * A + V % A = V := by rw [Nat.mul_comm]; exact Nat.div_add_mod V A
  have hUA1 := hg1.2.2.1
  have hVA1 := hg2.2.2.1
  have hmU : U % A < A := Nat.mod_lt _ (by omega)
  have hmV : V % A < A := Nat.mod_lt _ (by omega)
  refine walk hi lo y s Y A C (hi * k) (64 - s) Q U L d1 d0 (U / A) (U / A * A) (U % A) t1 t2 (U * 4294967296 % 18446744073709551616) ((U * 4294967296 % 18446744073709551616 + d1) % 18446744073709551616) (t1 * Y % 18446744073709551616) V
    (V / A) (V / A * A) (V % A) (t1 * 4294967296) qq (V * 4294967296 % 18446744073709551616) ((V * 4294967296 % 18446744073709551616 + d0) % 18446744073709551616) (t2 * Y % 18446744073709551616) R rr w hy hh h0 ?_ ?_ ?_ hYAC A0 A1 C1 d1b d0b ht1 ht2 tb1 tb2 hg1 hg2
  · have hPb : hi * k < 18446744073709551616 := by omega
    refine ⟨hs, u64_in (by omega), by omega, ?_, ?_, ?_, ?_, ?_, by omega, ?_, ?_, ?_, ?_, ?_, by omega, (Int.natCast_ediv U A).symm, u64_in (by omega), ?_, ?_⟩
    · rw [pow_cast hk, ← Int.natCast_mul, hY]; exact u64_in y1
    · rw [← hA]; rfl
    · have h := bits_and_u64_nat Y 4294967295 y1 (by omega)
      have e : Y &&& 4294967295 = Y % 4294967296 := Nat.and_two_pow_sub_one_eq_mod Y 32
      rw [e, hC] at h
      exact h
    · rw [pow_cast hk, ← Int.natCast_mul]; exact u64_in hPb
    · have := u64_in (x := 64 - s) (by omega)
      rw [← this]; congr 1; omega
    · rw [pow_cast (k := 2 ^ (64 - s)) rfl, ← Int.natCast_ediv, hQ]
    · have h := bits_or_u64_nat (hi * k) Q hPb (by omega)
      rw [h]
      have e : 2 ^ s * hi + Q = 2 ^ s * hi ||| Q := Nat.two_pow_add_eq_or_of_lt (by rw [hk]; exact Qk) hi
      rw [hk, Nat.mul_comm k] at e
      rw [← e, hU]
    · rw [pow_cast hk, ← Int.natCast_mul, nat_wrap, hL]
    · rw [← hd1]; rfl
    · have h := bits_and_u64_nat L 4294967295 hLb (by omega)
      have e : L &&& 4294967295 = L % 4294967296 := Nat.and_two_pow_sub_one_eq_mod L 32
      rw [e, hd0] at h
      exact h
    · rw [← Int.natCast_mul]; exact u64_in (by omega)
    · rw [IntKind.wrap_u64]; omega
  · refine ⟨?_, ?_, ?_, ?_, (Int.natCast_ediv V A).symm, u64_in (by omega), ?_, ?_⟩
    · have := nat_wrap (U * 4294967296)
      rw [← this, Int.natCast_mul]; rfl
    · rw [← Int.natCast_add, nat_wrap]
    · rw [← Int.natCast_mul, nat_wrap]
    · exact sub_wrap (x := U * 4294967296 + d1) (p := t1 * Y) (Nat.mod_add_mod _ _ _).symm rfl w1 (Nat.lt_trans hVY y1)
    · rw [← Int.natCast_mul]; exact u64_in (by omega)
    · rw [IntKind.wrap_u64]; omega
  · refine ⟨?_, ?_, ?_, ?_, ?_, ?_, ?_⟩
    · have := u64_in (x := t1 * 4294967296) (by omega)
      rw [← this, Int.natCast_mul]; rfl
    · rw [← Int.natCast_add, hqq]; exact u64_in (by omega)
    · have := nat_wrap (V * 4294967296)
      rw [← this, Int.natCast_mul]; rfl
    · rw [← Int.natCast_add, nat_wrap]
    · rw [← Int.natCast_mul, nat_wrap]
    · exact sub_wrap (x := V * 4294967296 + d0) (p := t2 * Y) (Nat.mod_add_mod _ _ _).symm rfl w2 (Nat.lt_trans hRY y1)
    · rw [pow_cast hk, ← Int.natCast_ediv, hrr]

set_option maxHeartbeats 1000000 in
set_option maxRecDepth 100000 in
theorem Div64_small (lo y : Nat) (w : World) (hy : y < 18446744073709551616) (hh : 0 < y) (hl : lo < 18446744073709551616) :
    Calls Try.prog 35 #[.int .u64 0, .int .u64 lo, .int .u64 y] w fun e w' => e = .returned (.tuple #[.int .u64 (lo / y : Nat), .int .u64 (lo % y : Nat)]) ∧ ∃ n, w' = w.drewN n := by
  obtain ⟨q, hq⟩ : ∃ q, lo / y = q := ⟨_, rfl⟩
  obtain ⟨r, hr⟩ : ∃ q, lo % y = q := ⟨_, rfl⟩
  have q1 : q < 18446744073709551616 := by rw [← hq]; exact Nat.lt_of_le_of_lt (Nat.div_le_self _ _) hl
  have e1 : (lo : Int) / (y : Int) = q := by rw [← hq]; rfl
  have e2 : (lo : Int) % (y : Int) = r := by rw [← hr]; rfl
  have wq := u64_in q1
  have g1 : ((y : Int) == 0) = false := by simp; omega
  have n1 : ¬ y = 0 := by omega
  have g2 : ¬ ((y : Int) ≤ 0) := by omega
  rw [hq, hr]
  clear hq hr
  go_enter Try.func35, Try.ntmps35
  go_wp2
  go_region
  go_wp2
  go_ret2
  refine ⟨?_, 1, rfl⟩
  show Ending.returned (.tuple #[.int .u64 q, .int .u64 ((lo : Int) % (y : Int))]) = _
  rw [e2]

/-- THE QUOTIENT AND THE REST. -/
theorem Div64_is (hi lo y : Nat) (w : World) (hy : y < 18446744073709551616) (hh : hi < y) (hl : lo < 18446744073709551616) (q r : Nat) (hq : (hi * 18446744073709551616 + lo) / y = q) (hr : (hi * 18446744073709551616 + lo) % y = r) :
    Calls Try.prog 35 #[.int .u64 hi, .int .u64 lo, .int .u64 y] w fun e w' => e = .returned (.tuple #[.int .u64 q, .int .u64 r]) ∧ ∃ n, w' = w.drewN n := by
  rcases Nat.eq_zero_or_pos hi with h | h
  · subst h
    rw [Nat.zero_mul, Nat.zero_add] at hq hr
    have := Div64_small lo y w hy hh hl
    rw [hq, hr] at this
    exact this
  · exact (Div64_big hi lo y w hy hh hl h q r hq hr).mono fun e w' ⟨h1, h2⟩ => ⟨h1, 0, h2.symm⟩
end Go.Proofs.Ytnboimaocmeojaa.div64
