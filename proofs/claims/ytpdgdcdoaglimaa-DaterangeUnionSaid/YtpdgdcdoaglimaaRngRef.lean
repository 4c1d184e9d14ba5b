/-
  What the reference of chapter 5 answers of one range and of two: nonempty, Contains, Intersect.
-/
import Derived.Test.YtpdgdcdoaglimaaRngVal
namespace Go.Proofs.Ytpdgdcdoaglimaa.rng
open Go Go.RowKit Go.Proofs.Ytpdgdcdoaglimaa.money
set_option linter.unusedVariables false
set_option linter.unusedSimpArgs false

theorem rNonempty_is (x y : Int) (b : Bool) (w : World) (h : neR (x, y) = b) : Calls Try.prog 30 #[.agg #[.int .i64 x, .int .i64 y]] w (GivesB w b) := by
  obtain ⟨v, hv⟩ : ∃ v, okR (x, y) = v := ⟨_, rfl⟩
  have h' : (v && decide (x < y)) = b := by rw [← hv, ← h]; rfl
  have HV := Lib.hid hv
  have H := Lib.hid h'
  clear h h' hv
  cases v
  · go_enter Try.func30, Try.ntmps30
    go_wp2_with (go_at_call 12; refine (rValid_is x y false _ HV.out).mono ?_; rintro e w' ⟨rfl, hb⟩; obtain ⟨hc, hf⟩ := bcell hb)
    go_ret
    exact ⟨ref_bool (by rw [← H.out]; rfl), ((Below.refl _ _).alloc (Nat.le_refl _) _).trans (hb.mono (by simp))⟩
  · by_cases h2 : x < y
    all_goals
      go_enter Try.func30, Try.ntmps30
      go_wp2_with (go_at_call 12; refine (rValid_is x y true _ HV.out).mono ?_; rintro e w' ⟨rfl, hb⟩; obtain ⟨hc, hf⟩ := bcell hb)
      go_ret
      exact ⟨ref_bool (by rw [← H.out]; simp [h2]), ((Below.refl _ _).alloc (Nat.le_refl _) _).trans (hb.mono (by simp))⟩
theorem rContains_is (x y : Int) (d : Int) (b : Bool) (w : World) (h : hasR (x, y) d = b) : Calls Try.prog 14 #[.agg #[.int .i64 x, .int .i64 y], .int .i64 d] w (GivesB w b) := by
  obtain ⟨v, hv⟩ : ∃ v, okR (x, y) = v := ⟨_, rfl⟩
  have h' : (v && (decide (x ≤ d) && decide (d < y))) = b := by rw [← hv, ← h]; rfl
  have HV := Lib.hid hv
  have H := Lib.hid h'
  clear h h' hv
  cases v
  · go_enter Try.func14, Try.ntmps14
    go_wp2_with (go_at_call 12; refine (rValid_is x y false _ HV.out).mono ?_; rintro e w' ⟨rfl, hb⟩; obtain ⟨hc, hf⟩ := bcell hb)
    go_ret
    exact ⟨ref_bool (by rw [← H.out]; rfl), ((Below.refl _ _).alloc (Nat.le_refl _) _).trans (hb.mono (by simp))⟩
  · by_cases h1 : x ≤ d
    · by_cases h2 : d < y
      all_goals
        go_enter Try.func14, Try.ntmps14
        go_wp2_with (go_at_call 12; refine (rValid_is x y true _ HV.out).mono ?_; rintro e w' ⟨rfl, hb⟩; obtain ⟨hc, hf⟩ := bcell hb)
        go_ret
        exact ⟨ref_bool (by rw [← H.out]; simp; omega), ((Below.refl _ _).alloc (Nat.le_refl _) _).trans (hb.mono (by simp))⟩
    · go_enter Try.func14, Try.ntmps14
      go_wp2_with (go_at_call 12; refine (rValid_is x y true _ HV.out).mono ?_; rintro e w' ⟨rfl, hb⟩; obtain ⟨hc, hf⟩ := bcell hb)
      go_ret
      exact ⟨ref_bool (by rw [← H.out]; simp; omega), ((Below.refl _ _).alloc (Nat.le_refl _) _).trans (hb.mono (by simp))⟩


set_option maxHeartbeats 1000000 in
theorem rIntersect_is (a0 a1 b0 b1 c0 c1 : Int) (t : Bool) (w : World) (h : interR (a0, a1) (b0, b1) = ((c0, c1), t)) : Calls Try.prog 10 #[.agg #[.int .i64 a0, .int .i64 a1], .agg #[.int .i64 b0, .int .i64 b1]] w (GivesR w c0 c1 t) := by
  obtain ⟨va, hva⟩ : ∃ v, okR (a0, a1) = v := ⟨_, rfl⟩
  obtain ⟨vb, hvb⟩ : ∃ v, okR (b0, b1) = v := ⟨_, rfl⟩
  have HA := Lib.hid hva
  have HB := Lib.hid hvb
  unfold interR at h
  rw [hva, hvb] at h
  clear hva hvb
  simp only at h
  cases va
  · rw [Bool.false_and, Bool.false_and, if_neg (by decide)] at h
    cases h
    go_enter Try.func10, Try.ntmps10
    go_wp2_with (go_at_call 12; refine (rValid_is a0 a1 false _ HA.out).mono ?_; rintro e w' ⟨rfl, hb⟩; obtain ⟨hc, hf⟩ := bcell hb; have hz := hb.size; try simp at hz)
    refine bodyPost_ret (v := .tuple #[.agg #[.int .i64 0, .int .i64 0], .bool false]) (by simp [results, Try.results10, go_sem, hc]) rfl ⟨rfl, ?_⟩
    exact (((((Below.refl _ _).alloc (Nat.le_refl _) _).alloc (by simp) _).alloc (by simp; omega) _).trans (hb.mono (by simp; omega))).setCell (by simp; omega) _ |>.setCell (by simp; omega) _
  · cases vb
    · rw [Bool.and_false, Bool.false_and, if_neg (by decide)] at h
      cases h
      go_enter Try.func10, Try.ntmps10
      go_wp2_with (first
        | (go_at_call 12; (with_reducible refine (rValid_is a0 a1 true _ HA.out).mono ?_); rintro e w1 ⟨rfl, hb1⟩; obtain ⟨hc1, hf1⟩ := bcell hb1; have hz1 := hb1.size; simp at hz1; have s0 : w.heap.size < w1.heap.size := (by omega); have s1 : w.heap.size + 1 < w1.heap.size := (by omega); have s2 : w.heap.size + 1 + 1 < w1.heap.size := by omega)
        | (go_at_call 12; (with_reducible refine (rValid_is b0 b1 false _ HB.out).mono ?_); rintro e w2 ⟨rfl, hb2⟩; obtain ⟨hc2, hf2⟩ := bcell hb2; have hz2 := hb2.size; have s3 : w.heap.size + 1 + 1 < w2.heap.size := by omega)
        | fail)
      refine bodyPost_ret (v := .tuple #[.agg #[.int .i64 0, .int .i64 0], .bool false]) (by simp [results, Try.results10, go_sem, hc1, hc2, s0, s1, s2, s3, Nat.ne_of_lt s3]) rfl ⟨rfl, ?_⟩
      have t0 : Below w.heap.size w w2 := (((((Below.refl _ _).alloc (Nat.le_refl _) _).alloc (by simp) _).alloc (by simp; omega) _).trans (hb1.mono (by simp; omega))).trans (hb2.mono (by omega))
      exact (t0.setCell (by simp; omega) _).setCell (by simp; omega) _
    · rw [Bool.and_self, Bool.true_and] at h
      by_cases g1 : a0 < b0 <;> by_cases g2 : b1 < a1
      · rw [Int.max_eq_right (show a0 ≤ b0 by omega), Int.min_eq_right (show b1 ≤ a1 by omega)] at h
        by_cases hlt : b0 < b1
        · rw [decide_eq_true hlt, if_pos rfl] at h
          cases h
          go_enter Try.func10, Try.ntmps10
          go_wp2_with (first
            | (go_at_call 12; (with_reducible refine (rValid_is a0 a1 true _ HA.out).mono ?_); rintro e w1 ⟨rfl, hb1⟩; obtain ⟨hc1, hf1⟩ := bcell hb1; have hz1 := hb1.size; simp at hz1; have s0 : w.heap.size < w1.heap.size := (by omega); have s1 : w.heap.size + 1 < w1.heap.size := (by omega); have s2 : w.heap.size + 1 + 1 < w1.heap.size := by omega)
            | (go_at_call 12; (with_reducible refine (rValid_is b0 b1 true _ HB.out).mono ?_); rintro e w2 ⟨rfl, hb2⟩; obtain ⟨hc2, hf2⟩ := bcell hb2; have hz2 := hb2.size; have s3 : w.heap.size + 1 + 1 < w2.heap.size := by omega)
            | fail)
          refine bodyPost_ret (v := .tuple #[.agg #[.int .i64 b0, .int .i64 b1], .bool true]) (by simp [results, Try.results10, go_sem, hc1, hc2, s0, s1, s2, s3, Nat.ne_of_lt s3]) rfl ⟨rfl, ?_⟩
          have t0 : Below w.heap.size w w2 := (((((Below.refl _ _).alloc (Nat.le_refl _) _).alloc (by simp) _).alloc (by simp; omega) _).trans (hb1.mono (by simp; omega))).trans (hb2.mono (by omega))
          exact ((t0.setCell (by simp; omega) _).setCell (by simp; omega) _).alloc (by simp; omega) _
        · rw [decide_eq_false hlt, if_neg (by decide)] at h
          cases h
          go_enter Try.func10, Try.ntmps10
          go_wp2_with (first
            | (go_at_call 12; (with_reducible refine (rValid_is a0 a1 true _ HA.out).mono ?_); rintro e w1 ⟨rfl, hb1⟩; obtain ⟨hc1, hf1⟩ := bcell hb1; have hz1 := hb1.size; simp at hz1; have s0 : w.heap.size < w1.heap.size := (by omega); have s1 : w.heap.size + 1 < w1.heap.size := (by omega); have s2 : w.heap.size + 1 + 1 < w1.heap.size := by omega)
            | (go_at_call 12; (with_reducible refine (rValid_is b0 b1 true _ HB.out).mono ?_); rintro e w2 ⟨rfl, hb2⟩; obtain ⟨hc2, hf2⟩ := bcell hb2; have hz2 := hb2.size; have s3 : w.heap.size + 1 + 1 < w2.heap.size := by omega)
            | fail)
          refine bodyPost_ret (v := .tuple #[.agg #[.int .i64 0, .int .i64 0], .bool false]) (by simp [results, Try.results10, go_sem, hc1, hc2, s0, s1, s2, s3, Nat.ne_of_lt s3]) rfl ⟨rfl, ?_⟩
          have t0 : Below w.heap.size w w2 := (((((Below.refl _ _).alloc (Nat.le_refl _) _).alloc (by simp) _).alloc (by simp; omega) _).trans (hb1.mono (by simp; omega))).trans (hb2.mono (by omega))
          exact ((t0.setCell (by simp; omega) _).setCell (by simp; omega) _).alloc (by simp; omega) _
      · rw [Int.max_eq_right (show a0 ≤ b0 by omega), Int.min_eq_left (show a1 ≤ b1 by omega)] at h
        by_cases hlt : b0 < a1
        · rw [decide_eq_true hlt, if_pos rfl] at h
          cases h
          go_enter Try.func10, Try.ntmps10
          go_wp2_with (first
            | (go_at_call 12; (with_reducible refine (rValid_is a0 a1 true _ HA.out).mono ?_); rintro e w1 ⟨rfl, hb1⟩; obtain ⟨hc1, hf1⟩ := bcell hb1; have hz1 := hb1.size; simp at hz1; have s0 : w.heap.size < w1.heap.size := (by omega); have s1 : w.heap.size + 1 < w1.heap.size := (by omega); have s2 : w.heap.size + 1 + 1 < w1.heap.size := by omega)
            | (go_at_call 12; (with_reducible refine (rValid_is b0 b1 true _ HB.out).mono ?_); rintro e w2 ⟨rfl, hb2⟩; obtain ⟨hc2, hf2⟩ := bcell hb2; have hz2 := hb2.size; have s3 : w.heap.size + 1 + 1 < w2.heap.size := by omega)
            | fail)
          refine bodyPost_ret (v := .tuple #[.agg #[.int .i64 b0, .int .i64 a1], .bool true]) (by simp [results, Try.results10, go_sem, hc1, hc2, s0, s1, s2, s3, Nat.ne_of_lt s3]) rfl ⟨rfl, ?_⟩
          have t0 : Below w.heap.size w w2 := (((((Below.refl _ _).alloc (Nat.le_refl _) _).alloc (by simp) _).alloc (by simp; omega) _).trans (hb1.mono (by simp; omega))).trans (hb2.mono (by omega))
          exact ((t0.setCell (by simp; omega) _).setCell (by simp; omega) _).alloc (by simp; omega) _
        · rw [decide_eq_false hlt, if_neg (by decide)] at h
          cases h
          go_enter Try.func10, Try.ntmps10
          go_wp2_with (first
            | (go_at_call 12; (with_reducible refine (rValid_is a0 a1 true _ HA.out).mono ?_); rintro e w1 ⟨rfl, hb1⟩; obtain ⟨hc1, hf1⟩ := bcell hb1; have hz1 := hb1.size; simp at hz1; have s0 : w.heap.size < w1.heap.size := (by omega); have s1 : w.heap.size + 1 < w1.heap.size := (by omega); have s2 : w.heap.size + 1 + 1 < w1.heap.size := by omega)
            | (go_at_call 12; (with_reducible refine (rValid_is b0 b1 true _ HB.out).mono ?_); rintro e w2 ⟨rfl, hb2⟩; obtain ⟨hc2, hf2⟩ := bcell hb2; have hz2 := hb2.size; have s3 : w.heap.size + 1 + 1 < w2.heap.size := by omega)
            | fail)
          refine bodyPost_ret (v := .tuple #[.agg #[.int .i64 0, .int .i64 0], .bool false]) (by simp [results, Try.results10, go_sem, hc1, hc2, s0, s1, s2, s3, Nat.ne_of_lt s3]) rfl ⟨rfl, ?_⟩
          have t0 : Below w.heap.size w w2 := (((((Below.refl _ _).alloc (Nat.le_refl _) _).alloc (by simp) _).alloc (by simp; omega) _).trans (hb1.mono (by simp; omega))).trans (hb2.mono (by omega))
          exact ((t0.setCell (by simp; omega) _).setCell (by simp; omega) _).alloc (by simp; omega) _
      · rw [Int.max_eq_left (show b0 ≤ a0 by omega), Int.min_eq_right (show b1 ≤ a1 by omega)] at h
        by_cases hlt : a0 < b1
        · rw [decide_eq_true hlt, if_pos rfl] at h
          cases h
          go_enter Try.func10, Try.ntmps10
          go_wp2_with (first
            | (go_at_call 12; (with_reducible refine (rValid_is a0 a1 true _ HA.out).mono ?_); rintro e w1 ⟨rfl, hb1⟩; obtain ⟨hc1, hf1⟩ := bcell hb1; have hz1 := hb1.size; simp at hz1; have s0 : w.heap.size < w1.heap.size := (by omega); have s1 : w.heap.size + 1 < w1.heap.size := (by omega); have s2 : w.heap.size + 1 + 1 < w1.heap.size := by omega)
            | (go_at_call 12; (with_reducible refine (rValid_is b0 b1 true _ HB.out).mono ?_); rintro e w2 ⟨rfl, hb2⟩; obtain ⟨hc2, hf2⟩ := bcell hb2; have hz2 := hb2.size; have s3 : w.heap.size + 1 + 1 < w2.heap.size := by omega)
            | fail)
          refine bodyPost_ret (v := .tuple #[.agg #[.int .i64 a0, .int .i64 b1], .bool true]) (by simp [results, Try.results10, go_sem, hc1, hc2, s0, s1, s2, s3, Nat.ne_of_lt s3]) rfl ⟨rfl, ?_⟩
          have t0 : Below w.heap.size w w2 := (((((Below.refl _ _).alloc (Nat.le_refl _) _).alloc (by simp) _).alloc (by simp; omega) _).trans (hb1.mono (by simp; omega))).trans (hb2.mono (by omega))
          exact ((t0.setCell (by simp; omega) _).setCell (by simp; omega) _).alloc (by simp; omega) _
        · rw [decide_eq_false hlt, if_neg (by decide)] at h
          cases h
          go_enter Try.func10, Try.ntmps10
          go_wp2_with (first
            | (go_at_call 12; (with_reducible refine (rValid_is a0 a1 true _ HA.out).mono ?_); rintro e w1 ⟨rfl, hb1⟩; obtain ⟨hc1, hf1⟩ := bcell hb1; have hz1 := hb1.size; simp at hz1; have s0 : w.heap.size < w1.heap.size := (by omega); have s1 : w.heap.size + 1 < w1.heap.size := (by omega); have s2 : w.heap.size + 1 + 1 < w1.heap.size := by omega)
            | (go_at_call 12; (with_reducible refine (rValid_is b0 b1 true _ HB.out).mono ?_); rintro e w2 ⟨rfl, hb2⟩; obtain ⟨hc2, hf2⟩ := bcell hb2; have hz2 := hb2.size; have s3 : w.heap.size + 1 + 1 < w2.heap.size := by omega)
            | fail)
          refine bodyPost_ret (v := .tuple #[.agg #[.int .i64 0, .int .i64 0], .bool false]) (by simp [results, Try.results10, go_sem, hc1, hc2, s0, s1, s2, s3, Nat.ne_of_lt s3]) rfl ⟨rfl, ?_⟩
          have t0 : Below w.heap.size w w2 := (((((Below.refl _ _).alloc (Nat.le_refl _) _).alloc (by simp) _).alloc (by simp; omega) _).trans (hb1.mono (by simp; omega))).trans (hb2.mono (by omega))
          exact ((t0.setCell (by simp; omega) _).setCell (by simp; omega) _).alloc (by simp; omega) _
      · rw [Int.max_eq_left (show b0 ≤ a0 by omega), Int.min_eq_left (show a1 ≤ b1 by omega)] at h
        by_cases hlt : a0 < a1
        · rw [decide_eq_true hlt, if_pos rfl] at h
          cases h
          go_enter Try.func10, Try.ntmps10
          go_wp2_with (first
            | (go_at_call 12; (with_reducible refine (rValid_is a0 a1 true _ HA.out).mono ?_); rintro e w1 ⟨rfl, hb1⟩; obtain ⟨hc1, hf1⟩ := bcell hb1; have hz1 := hb1.size; simp at hz1; have s0 : w.heap.size < w1.heap.size := (by omega); have s1 : w.heap.size + 1 < w1.heap.size := (by omega); have s2 : w.heap.size + 1 + 1 < w1.heap.size := by omega)
            | (go_at_call 12; (with_reducible refine (rValid_is b0 b1 true _ HB.out).mono ?_); rintro e w2 ⟨rfl, hb2⟩; obtain ⟨hc2, hf2⟩ := bcell hb2; have hz2 := hb2.size; have s3 : w.heap.size + 1 + 1 < w2.heap.size := by omega)
            | fail)
          refine bodyPost_ret (v := .tuple #[.agg #[.int .i64 a0, .int .i64 a1], .bool true]) (by simp [results, Try.results10, go_sem, hc1, hc2, s0, s1, s2, s3, Nat.ne_of_lt s3]) rfl ⟨rfl, ?_⟩
          have t0 : Below w.heap.size w w2 := (((((Below.refl _ _).alloc (Nat.le_refl _) _).alloc (by simp) _).alloc (by simp; omega) _).trans (hb1.mono (by simp; omega))).trans (hb2.mono (by omega))
          exact ((t0.setCell (by simp; omega) _).setCell (by simp; omega) _).alloc (by simp; omega) _
        · rw [decide_eq_false hlt, if_neg (by decide)] at h
          cases h
          go_enter Try.func10, Try.ntmps10
          go_wp2_with (first
            | (go_at_call 12; (with_reducible refine (rValid_is a0 a1 true _ HA.out).mono ?_); rintro e w1 ⟨rfl, hb1⟩; obtain ⟨hc1, hf1⟩ := bcell hb1; have hz1 := hb1.size; simp at hz1; have s0 : w.heap.size < w1.heap.size := (by omega); have s1 : w.heap.size + 1 < w1.heap.size := (by omega); have s2 : w.heap.size + 1 + 1 < w1.heap.size := by omega)
            | (go_at_call 12; (with_reducible refine (rValid_is b0 b1 true _ HB.out).mono ?_); rintro e w2 ⟨rfl, hb2⟩; obtain ⟨hc2, hf2⟩ := bcell hb2; have hz2 := hb2.size; have s3 : w.heap.size + 1 + 1 < w2.heap.size := by omega)
            | fail)
          refine bodyPost_ret (v := .tuple #[.agg #[.int .i64 0, .int .i64 0], .bool false]) (by simp [results, Try.results10, go_sem, hc1, hc2, s0, s1, s2, s3, Nat.ne_of_lt s3]) rfl ⟨rfl, ?_⟩
          have t0 : Below w.heap.size w w2 := (((((Below.refl _ _).alloc (Nat.le_refl _) _).alloc (by simp) _).alloc (by simp; omega) _).trans (hb1.mono (by simp; omega))).trans (hb2.mono (by omega))
          exact ((t0.setCell (by simp; omega) _).setCell (by simp; omega) _).alloc (by simp; omega) _
end Go.Proofs.Ytpdgdcdoaglimaa.rng
