/-
  What package money's quotients answer: the division of two numbers, and a quotient rounded. The walks.
-/
import Derived.Test.YtnboimaocmeojaaMineA
namespace Go.Proofs.Ytnboimaocmeojaa.money
open Go Go.RowKit
set_option linter.unusedVariables false

def quoV (neg : Bool) (q r d : Int) : Value := .agg #[.bool neg, .int .u64 q, .int .u64 r, .int .u64 d]
def GivesQuo (w : World) (neg : Bool) (q r d : Int) (e : Ending) (w' : World) : Prop := e = .returned (quoV neg q r d) ∧ Below w.heap.size w w'

set_option maxHeartbeats 1000000 in
theorem divide_is (n d q r y : Int) (neg : Bool) (w : World) (n0 : -4611686018427387904 ≤ n) (n1 : n ≤ 4611686018427387904) (d0 : -4611686018427387904 ≤ d) (d1 : d ≤ 4611686018427387904) (hd : d ≠ 0)
    (hq : ((n.natAbs / d.natAbs : Nat) : Int) = q) (hr : ((n.natAbs % d.natAbs : Nat) : Int) = r) (hy : (d.natAbs : Int) = y) (hneg : (!(decide (n < 0) == decide (d < 0))) = neg) :
    Calls Try.prog 31 #[.int .i64 n, .int .i64 d] w (GivesQuo w neg q r y) := by
  obtain ⟨x, hx⟩ : ∃ x : Int, (n.natAbs : Int) = x := ⟨_, rfl⟩
  have hdp : 0 < d.natAbs := by omega
  have e1 : x / y = q := by rw [← hx, ← hy, ← hq]; rfl
  have e2 : x % y = r := by rw [← hx, ← hy, ← hr]; rfl
  have x0 : 0 ≤ x := by omega
  have y1 : 1 ≤ y := by omega
  have f1 : IntKind.u64.wrap (x / y) = q := by
    rw [e1, IntKind.wrap_u64]
    have h1 : (0 : Int) ≤ q := by rw [← hq]; exact Int.natCast_nonneg _
    have h2 : q ≤ (n.natAbs : Int) := by rw [← hq]; exact Int.ofNat_le.2 (Nat.div_le_self _ _)
    omega
  have f2 : IntKind.u64.wrap (x.tdiv y) = q := by rw [tdiv_of x0]; exact f1
  have f3 : x.tmod y = r := by rw [tmod_of x0, e2]
  have f4 : x.tdiv y = q := by rw [tdiv_of x0, e1]
  have y0 : (y == 0) = false := by simp; omega
  have f5 : IntKind.u64.wrap q = q := by rw [← e1]; rw [f1, e1]
  have HX := Lib.hid hx
  have HY := Lib.hid hy
  have HN := Lib.hid hneg
  have HB := Lib.hid (And.intro n0 (And.intro n1 (And.intro d0 d1)))
  clear hx hy hneg hq hr hdp hd
  go_enter Try.func31, Try.ntmps31
  go_wp2_with (first
    | (go_at_call 34; (with_reducible refine (mAbs_is n x _ (by have := HB.out; omega) (by have := HB.out; omega) HX.out).mono ?_); rintro e w' ⟨rfl, rfl⟩)
    | (go_at_call 34; (with_reducible refine (mAbs_is d y _ (by have := HB.out; omega) (by have := HB.out; omega) HY.out).mono ?_); rintro e w' ⟨rfl, rfl⟩)
    | fail)
  go_region
  go_wp2
  refine bodyPost_ret (v := quoV (!(decide (n < 0) == decide (d < 0))) q r y) (by simp [results, Try.results31, go_sem, quoV]) rfl ⟨by rw [HN.out], ?_⟩
  exact below_drewN ((Below.refl _ _).alloc (Nat.le_refl _) _) 1

theorem cents_is (c a k : Int) (w : World) (h : (if beyond c 1000000000000000 then ((0 : Int), (3 : Int)) else (c, 0)) = (a, k)) :
    Calls Try.prog 36 #[.int .i64 c] w fun e w' => e = .returned (.tuple #[.int .i64 a, .int .i64 k]) ∧ w = w' := by
  cases hb : beyond c 1000000000000000
  · rw [hb, if_neg (by decide)] at h
    cases h
    have HB := Lib.hid hb
    clear hb
    go_enter Try.func36, Try.ntmps36
    go_wp2_with (go_at_call 30; refine (mBeyond_is _ _ false _ (by decide) (by decide) HB.out).mono ?_; rintro e w' ⟨rfl, rfl⟩)
    go_ret2
    exact ⟨rfl, rfl⟩
  · rw [hb, if_pos rfl] at h
    cases h
    have HB := Lib.hid hb
    clear hb
    go_enter Try.func36, Try.ntmps36
    go_wp2_with (go_at_call 30; refine (mBeyond_is _ _ true _ (by decide) (by decide) HB.out).mono ?_; rintro e w' ⟨rfl, rfl⟩)
    go_ret2
    exact ⟨rfl, rfl⟩

/-- does the mode take the quotient, which is not whole, away from zero -/
def away (q r d : Int) (neg : Bool) (m : Int) : Bool :=
  if m = 0 then neg else if m = 1 then !neg else if m = 3 then true else if m = 4 then decide (d ≤ 2 * r)
  else if m = 5 then decide (d < 2 * r) || (decide (2 * r = d) && decide (q % 2 = 1)) else false
theorem up_away {q r d : Int} {neg : Bool} {m : Int} (h0 : 0 ≤ r) (h1 : r < d) : up q r d neg m = (decide (0 < r) && away q r d neg m) := by
  unfold up away
  by_cases hr : 0 < r
  · have g : decide (0 < r) = true := by simpa using hr
    rw [g]
    have a1 : decide (d - r ≤ r) = decide (d ≤ 2 * r) := by rw [Bool.eq_iff_iff]; simp; omega
    have a2 : decide (d - r < r) = decide (d < 2 * r) := by rw [Bool.eq_iff_iff]; simp; omega
    have a3 : decide (r = d - r) = decide (2 * r = d) := by rw [Bool.eq_iff_iff]; simp; omega
    rw [a1, a2, a3]
    simp
  · have g : decide (0 < r) = false := by simpa using hr
    have a1 : decide (d - r ≤ r) = false := by simp; omega
    have a2 : decide (d - r < r) = false := by simp; omega
    have a3 : decide (r = d - r) = false := by simp; omega
    rw [g, a1, a2, a3]
    simp

set_option maxHeartbeats 1000000 in
theorem away_is (q r d m : Int) (neg b : Bool) (w : World) (q0 : 0 ≤ q) (q1 : q ≤ 9223372036854775807) (r0 : 0 ≤ r) (r1 : r < d) (d1 : d ≤ 4611686018427387904) (hm : okMode m = true) (h : away q r d neg m = b) :
    Calls Try.prog 41 #[quoV neg q r d, .int .i64 m] w fun e w' => e = .returned (.bool b) ∧ Below w.heap.size w w' := by
  unfold quoV
  have hm6 : m = 0 ∨ m = 1 ∨ m = 2 ∨ m = 3 ∨ m = 4 ∨ m = 5 := by
    unfold okMode at hm; simp at hm; omega
  have u1 : IntKind.u64.wrap (2 * r) = 2 * r := by rw [IntKind.wrap_u64]; omega
  have u2 : q.tmod 2 = q % 2 := tmod_of q0
  have H := Lib.hid h
  clear h hm
  rcases hm6 with rfl | rfl | rfl | rfl | rfl | rfl
  · go_enter Try.func41, Try.ntmps41
    go_wp2
    go_ret
    exact ⟨ret_bool (by rw [← H.out]; rfl), (Below.refl _ _).alloc (Nat.le_refl _) _⟩
  · go_enter Try.func41, Try.ntmps41
    go_wp2
    go_ret
    exact ⟨ret_bool (by rw [← H.out]; rfl), (Below.refl _ _).alloc (Nat.le_refl _) _⟩
  · go_enter Try.func41, Try.ntmps41
    go_wp2
    go_ret
    exact ⟨ret_bool (by rw [← H.out]; rfl), (Below.refl _ _).alloc (Nat.le_refl _) _⟩
  · go_enter Try.func41, Try.ntmps41
    go_wp2
    go_ret
    exact ⟨ret_bool (by rw [← H.out]; rfl), (Below.refl _ _).alloc (Nat.le_refl _) _⟩
  · go_enter Try.func41, Try.ntmps41
    go_wp2
    go_ret
    exact ⟨ret_bool (by rw [← H.out]; rfl), (Below.refl _ _).alloc (Nat.le_refl _) _⟩
  · go_enter Try.func41, Try.ntmps41
    go_wp2
    all_goals go_ret
    all_goals refine ⟨ret_bool ?_, (Below.refl _ _).alloc (Nat.le_refl _) _⟩
    all_goals (rw [← H.out]; show _ = (decide (d < 2 * r) || (decide (2 * r = d) && decide (q % 2 = 1))); rw [Bool.eq_iff_iff]; simp; omega)

theorem quo_cell {w w1 : World} {neg : Bool} {q r d : Int} (hb : Below (w.alloc (.cells #[.bool neg, .int .u64 q, .int .u64 r, .int .u64 d] 37)).heap.size (w.alloc (.cells #[.bool neg, .int .u64 q, .int .u64 r, .int .u64 d] 37)) w1) :
    w1.cell? ⟨w.heap.size, 0, none⟩ = some (.bool neg) := (hb.cell (p := ⟨w.heap.size, 0, none⟩) (by simp)).trans (by simp)

set_option maxHeartbeats 1000000 in
theorem round_is (q r d m c : Int) (neg : Bool) (w : World) (q0 : 0 ≤ q) (q1 : q ≤ 4611686018427387904) (r0 : 0 ≤ r) (r1 : r < d) (d1 : d ≤ 4611686018427387904) (hm : okMode m = true) (h : rnd q r d neg m = c) :
    Calls Try.prog 32 #[quoV neg q r d, .int .i64 m] w fun e w' => e = .returned (.int .i64 c) ∧ Below w.heap.size w w' := by
  have H := Lib.hid h
  have HU := Lib.hid (up_away (q := q) (neg := neg) (m := m) r0 r1)
  have HM := Lib.hid hm
  have u1 : IntKind.i64.wrap q = q := i64_in (by omega) (by omega)
  clear h hm
  by_cases hr : 0 < r
  · obtain ⟨b, hb⟩ : ∃ b, away q r d neg m = b := ⟨_, rfl⟩
    have HB := Lib.hid hb
    clear hb
    unfold quoV
    cases b <;> cases neg
    all_goals
      go_enter Try.func32, Try.ntmps32
      go_wp2_with (go_at_call 41; refine (away_is q r d m _ _ _ q0 (by omega) r0 r1 d1 HM.out HB.out).mono ?_; rintro e w1 ⟨rfl, hb1⟩; have hc := quo_cell hb1)
      go_ret
      refine ⟨ret_int ?_, tr ((Below.refl _ _).alloc (Nat.le_refl _) _) hb1⟩
      rw [← H.out]; unfold rnd mag; rw [HU.out, HB.out, decide_eq_true hr]; simp
  · have hu : up q r d neg m = false := by rw [HU.out, decide_eq_false hr]; rfl
    have HV := Lib.hid hu
    have g1 : decide (0 < r) = false := decide_eq_false hr
    clear hu
    unfold quoV
    cases neg
    all_goals
      go_enter Try.func32, Try.ntmps32
      go_wp2
      go_ret
      refine ⟨ret_int ?_, (Below.refl _ _).alloc (Nat.le_refl _) _⟩
      rw [← H.out]; unfold rnd mag; rw [HV.out]; simp
end Go.Proofs.Ytnboimaocmeojaa.money
