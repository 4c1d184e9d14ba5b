/-
  The reference's division of a product bit by bit (chapter 2): quotient and rest of the product, the walk.
-/
import Derived.Test.YtikcnekaefelcaaMoneyRef
namespace Go.Proofs.Ytikcnekaefelcaa.money
open Go Go.RowKit
set_option linter.unusedVariables false

/-- q and r are quotient and rest of x times D divided by S -/
structure PR (x S D q r : Int) : Prop where
  eq : q * S + r = x * D
  r0 : 0 ≤ r
  r1 : r < S
  q0 : 0 ≤ q

theorem PR.step {x S D q r : Int} (h : PR x S D q r) (hx : 0 ≤ x) (b : Int) (hb : 0 ≤ b) (hS : 0 < S) : PR x S (2 * D + b) (2 * q + (2 * r + x * b) / S) ((2 * r + x * b) % S) := by
  have hd := Int.mul_ediv_add_emod (2 * r + x * b) S
  have hxb : 0 ≤ x * b := Int.mul_nonneg hx hb
  have hr0 := h.r0
  refine ⟨?_, Int.emod_nonneg _ (by omega), Int.emod_lt_of_pos _ hS, ?_⟩
  · have e := h.eq
    have e1 : (2 * q + (2 * r + x * b) / S) * S = 2 * (q * S) + S * ((2 * r + x * b) / S) := by
      rw [Int.add_mul, Int.mul_assoc, Int.mul_comm S]
    have e2 : x * (2 * D + b) = 2 * (x * D) + x * b := by rw [Int.mul_add, Int.mul_left_comm]
    omega
  · have := Int.ediv_nonneg (show 0 ≤ 2 * r + x * b by omega) (show 0 ≤ S by omega)
    have := h.q0; omega
theorem PR.q_le {x S D q r : Int} (h : PR x S D q r) (hx : x ≤ S) (hS : 0 < S) (hD : 0 ≤ D) : q ≤ D := by
  rcases Int.lt_or_le D q with g | g
  · have h1 : x * D ≤ S * D := Int.mul_le_mul_of_nonneg_right hx hD
    have h2 : S * (D + 1) ≤ S * q := Int.mul_le_mul_of_nonneg_left (by omega) (by omega)
    have h3 : S * (D + 1) = S * D + S := by rw [Int.mul_add, Int.mul_one]
    have e := h.eq
    rw [Int.mul_comm q S] at e
    have := h.r0; omega
  · exact g
theorem PR.done {x S D q r : Int} (h : PR x S D q r) (hS : 0 < S) : q = x * D / S ∧ r = x * D % S := by
  rw [← h.eq]
  have h1 := h.r0
  have h2 := h.r1
  refine ⟨?_, ?_⟩
  · rw [Int.add_comm, Int.add_mul_ediv_right _ _ (by omega), Int.ediv_eq_zero_of_lt h1 h2, Int.zero_add]
  · rw [Int.add_comm, Int.add_mul_emod_self_right, Int.emod_eq_of_lt h1 h2]
theorem PR.start (x : Int) {S : Int} (hS : 0 < S) : PR x S 0 0 0 := ⟨by simp, Int.le_refl _, hS, Int.le_refl _⟩

/-- how far the division has come when this bit is next -/
def Came (w B D : Int) : Prop := (B = 0 ∧ D = w) ∨ ∃ j : Nat, j ≤ 30 ∧ B = (2 ^ j : Nat) ∧ D = w / (2 ^ (j + 1) : Nat)
theorem Came.le {w B D : Int} (h : Came w B D) (hw : 0 ≤ w) : 0 ≤ D ∧ D ≤ w := by
  rcases h with ⟨_, rfl⟩ | ⟨j, _, _, rfl⟩
  · exact ⟨hw, Int.le_refl _⟩
  · exact ⟨Int.ediv_nonneg hw (Int.natCast_nonneg _), Int.ediv_le_self _ hw⟩
theorem Came.start {w : Int} (h0 : 0 ≤ w) (h1 : w ≤ 2147483647) : Came w 1073741824 0 :=
  .inr ⟨30, Nat.le_refl _, rfl, (Int.ediv_eq_zero_of_lt h0 (by have : ((2 ^ (30 + 1) : Nat) : Int) = 2147483648 := rfl; omega)).symm⟩
theorem Came.next {w B D : Int} (h : Came w B D) (hw : 0 ≤ w) (hB : B ≠ 0) : 1 ≤ B ∧ B ≤ 1073741824 ∧ w / B = 2 * D + w / B % 2 ∧ Came w (B / 2) (w / B) := by
  rcases h with ⟨h, _⟩ | ⟨j, hj, rfl, rfl⟩
  · exact absurd h hB
  · have h1 : 1 ≤ 2 ^ j := Nat.one_le_two_pow
    have h2 : 2 ^ j ≤ 2 ^ 30 := Nat.pow_le_pow_right (by omega) hj
    have h3 : (2 : Nat) ^ 30 = 1073741824 := rfl
    have e : w / ((2 ^ (j + 1) : Nat) : Int) = w / ((2 ^ j : Nat) : Int) / 2 := by
      rw [Int.ediv_ediv_of_nonneg (by omega)]; congr 1
    refine ⟨by omega, by omega, by omega, ?_⟩
    rcases Nat.eq_zero_or_pos j with rfl | hp
    · exact .inl ⟨rfl, by simp⟩
    · obtain ⟨i, rfl⟩ : ∃ i, j = i + 1 := ⟨j - 1, by omega⟩
      refine .inr ⟨i, by omega, ?_, rfl⟩
      have : 2 ^ (i + 1) = 2 ^ i * 2 := Nat.pow_succ ..
      omega

set_option maxHeartbeats 1000000 in
theorem rpart_is (x wt S q r : Int) (w : World) (x0 : 0 ≤ x) (x1 : x < S) (S1 : S ≤ 100000000000) (w0 : 0 ≤ wt) (w1 : wt ≤ 2147483647) (hq : x * wt / S = q) (hr : x * wt % S = r) :
    Calls Try.prog 37 #[.int .i64 x, .int .i64 wt, .int .i64 S] w fun e w' => e = .returned (.tuple #[.int .i64 q, .int .i64 r]) ∧ w = w' := by
  have HQ := Lib.hid (And.intro hq hr)
  have hS : 0 < S := by omega
  have hS0 : (S == 0) = false := by simp; omega
  clear hq hr
  go_enter Try.func37, Try.ntmps37
  go_wp2
  go_loop [8, 9, 10] (fun a b c => ∃ B D q r : Int, a = .int .i64 q ∧ b = .int .i64 r ∧ c = .int .i64 B ∧ Came wt B D ∧ PR x S D q r) (fun _ _ c => (intOf c).toNat)
  case atStart => exact ⟨1073741824, 0, 0, 0, rfl, rfl, rfl, Came.start w0 w1, PR.start x hS⟩
  case round =>
    obtain ⟨B, D, q, r, rfl, rfl, rfl, hc, hp⟩ := hrel
    by_cases hB : B = 0
    · subst hB
      have e : D = wt := by
        rcases hc with ⟨_, h⟩ | ⟨j, _, h, _⟩
        · exact h
        · have : 1 ≤ 2 ^ j := Nat.one_le_two_pow
          omega
      subst e
      have hd := hp.done hS
      rw [HQ.out.1, HQ.out.2] at hd
      obtain ⟨rfl, rfl⟩ := hd
      clear hc hp
      go_wp2
      go_ret2
      exact ⟨rfl, rfl⟩
    · obtain ⟨B1, B2, hv, hn⟩ := hc.next w0 hB
      have hD := hc.le w0
      have hql := hp.q_le (by omega) hS hD.1
      have hq0 := hp.q0
      have hr0 := hp.r0
      have hr1 := hp.r1
      have hst := hp.step x0 (wt / B % 2) (by omega) hS
      rw [← hv] at hst
      obtain ⟨v, hvv⟩ : ∃ v, wt / B = v := ⟨_, rfl⟩
      rw [hvv] at hst hv hn
      have hn2 := hn.le w0
      have hq2 := hst.q_le (by omega) hS hn2.1
      have hq3 := hst.q0
      have hs0 := hst.r0
      have hs1 := hst.r1
      have f1 : wt.tdiv B = v := by rw [tdiv_of w0, hvv]
      have f2 : wrap64 v = v := IntWalk.wrap64_in v ⟨by omega, by omega⟩
      have f2b : IntKind.i64.wrap v = v := i64_in (by omega) (by omega)
      have f4 : (B == 0) = false := by simpa using hB
      have hlt : (0 : Int) < B := by omega
      have f5 : B.tdiv 2 = B / 2 := tdiv_of (by omega)
      rcases (show v % 2 = 0 ∨ v % 2 = 1 by omega) with hb | hb
      · rw [hb] at hst hq2 hq3 hs0 hs1
        rw [Int.mul_zero, Int.add_zero] at hst hq2 hq3 hs0 hs1
        have f3 : v.tmod 2 = 0 := by rw [tmod_of (by omega), hb]
        obtain ⟨z, hz⟩ : ∃ z, 2 * r / S = z := ⟨_, rfl⟩
        obtain ⟨y, hy⟩ : ∃ y, 2 * r % S = y := ⟨_, rfl⟩
        have f6 : (2 * r).tdiv S = z := by rw [tdiv_of (by omega), hz]
        have f7 : (2 * r).tmod S = y := by rw [tmod_of (by omega), hy]
        rw [hz] at hst hq2 hq3
        rw [hy] at hst hs0 hs1
        have hz0 : 0 ≤ z := by rw [← hz]; exact Int.ediv_nonneg (by omega) (by omega)
        have f8 : wrap64 z = z := IntWalk.wrap64_in z ⟨by omega, by omega⟩
        have HST := Lib.hid hst
        have HN := Lib.hid hn
        clear hst hn hc hp hz hy hvv hv hb
        go_wp2
        go_round
        case rel => exact ⟨B / 2, v, 2 * q + z, y, by go_num, by go_num, by go_num, HN.out, HST.out⟩
        case measure => simp [intOf]; omega
      · rw [hb] at hst hq2 hq3 hs0 hs1
        rw [Int.mul_one] at hst hq2 hq3 hs0 hs1
        have f3 : v.tmod 2 = 1 := by rw [tmod_of (by omega), hb]
        obtain ⟨z, hz⟩ : ∃ z, (2 * r + x) / S = z := ⟨_, rfl⟩
        obtain ⟨y, hy⟩ : ∃ y, (2 * r + x) % S = y := ⟨_, rfl⟩
        have f6 : (2 * r + x).tdiv S = z := by rw [tdiv_of (by omega), hz]
        have f7 : (2 * r + x).tmod S = y := by rw [tmod_of (by omega), hy]
        rw [hz] at hst hq2 hq3
        rw [hy] at hst hs0 hs1
        have hz0 : 0 ≤ z := by rw [← hz]; exact Int.ediv_nonneg (by omega) (by omega)
        have f8 : wrap64 z = z := IntWalk.wrap64_in z ⟨by omega, by omega⟩
        have HST := Lib.hid hst
        have HN := Lib.hid hn
        clear hst hn hc hp hz hy hvv hv hb
        go_wp2
        go_round
        case rel => exact ⟨B / 2, v, 2 * q + z, y, by go_num, by go_num, by go_num, HN.out, HST.out⟩
        case measure => simp [intOf]; omega
end Go.Proofs.Ytikcnekaefelcaa.money
