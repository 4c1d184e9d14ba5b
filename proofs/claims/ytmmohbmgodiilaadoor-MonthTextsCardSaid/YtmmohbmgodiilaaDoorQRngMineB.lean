/-
  The landed Intersect walked.
-/
import Derived.Test.YtmmohbmgodiilaaDoorQRngMineA
namespace Go.Proofs.YtmmohbmgodiilaaDoor.rng
open Go Go.RowKit Go.Proofs.YtmmohbmgodiilaaDoor.money
set_option linter.unusedVariables false
set_option linter.unusedSimpArgs false

set_option maxHeartbeats 2000000 in
theorem Intersect_is (a0 a1 b0 b1 c0 c1 : Int) (t : Bool) (w : World) (he : Env w) (h : interR (a0, a1) (b0, b1) = ((c0, c1), t)) : Calls Tryd.prog 30 #[.agg #[.int .i64 a0, .int .i64 a1], .agg #[.int .i64 b0, .int .i64 b1]] w (GivesR w c0 c1 t) := by
  obtain ⟨va, hva⟩ : ∃ v, neR (a0, a1) = v := ⟨_, rfl⟩
  obtain ⟨vb, hvb⟩ : ∃ v, neR (b0, b1) = v := ⟨_, rfl⟩
  have HA := Lib.hid hva
  have HB := Lib.hid hvb
  rw [inter_ne, hva, hvb] at h
  clear hva hvb
  simp only at h
  cases va
  · rw [if_neg (by simp)] at h
    cases h
    go_enter Tryd.func30, Tryd.ntmps30
    go_wp2_with (go_at_call 49; refine (hasDates_is a0 a1 false _ HA.out).mono ?_; rintro e w' ⟨rfl, hb⟩; obtain ⟨hc, hf⟩ := bcell hb; have hz := hb.size; try simp at hz)
    refine bodyPost_ret (v := .tuple #[.agg #[.int .i64 0, .int .i64 0], .bool false]) (by simp [results, Tryd.results30, go_sem, hc]) rfl ⟨rfl, ?_⟩
    exact (((((Below.refl _ _).alloc (Nat.le_refl _) _).alloc (by simp) _).alloc (by simp; omega) _).trans (hb.mono (by simp; omega))).setCell (by simp; omega) _ |>.setCell (by simp; omega) _
  · cases vb
    · rw [if_neg (by simp)] at h
      cases h
      go_enter Tryd.func30, Tryd.ntmps30
      go_wp2_with (first
        | (go_at_call 49; (with_reducible refine (hasDates_is a0 a1 true _ HA.out).mono ?_); rintro e w1 ⟨rfl, hb1⟩; obtain ⟨hc1, hf1⟩ := bcell hb1; have hz1 := hb1.size; simp at hz1; have s0 : w.heap.size < w1.heap.size := (by omega); have s1 : w.heap.size + 1 < w1.heap.size := (by omega); have s2 : w.heap.size + 1 + 1 < w1.heap.size := by omega)
        | (go_at_call 49; (with_reducible refine (hasDates_is b0 b1 false _ HB.out).mono ?_); rintro e w2 ⟨rfl, hb2⟩; obtain ⟨hc2, hf2⟩ := bcell hb2; have hz2 := hb2.size; have s3 : w.heap.size + 1 + 1 < w2.heap.size := (by omega); have s6 : w.heap.size + 1 + 1 < w2.heap.size + 1 := (by omega); have s7 := Nat.ne_of_lt s3)
        | fail)
      refine bodyPost_ret (v := .tuple #[.agg #[.int .i64 0, .int .i64 0], .bool false]) (by simp [results, Tryd.results30, go_sem, hc1, hc2, s0, s1, s2, s3, Nat.ne_of_lt s3]) rfl ⟨rfl, ?_⟩
      have t0 : Below w.heap.size w w2 := (((((Below.refl _ _).alloc (Nat.le_refl _) _).alloc (by simp) _).alloc (by simp; omega) _).trans (hb1.mono (by simp; omega))).trans (hb2.mono (by omega))
      exact (t0.setCell (by simp; omega) _).setCell (by simp; omega) _
    · by_cases g1 : a0 < b0 <;> by_cases g2 : b1 < a1
      · rw [Int.max_eq_right (show a0 ≤ b0 by omega), Int.min_eq_right (show b1 ≤ a1 by omega)] at h
        obtain ⟨vc, hvc⟩ : ∃ v, neR (b0, b1) = v := ⟨_, rfl⟩
        rw [hvc] at h
        have HC := Lib.hid hvc
        clear hvc
        cases vc
        · rw [if_neg (by simp)] at h
          cases h
          go_enter Tryd.func30, Tryd.ntmps30
          go_wp2_with (first
            | (go_at_call 49; have _behind := hb2; (with_reducible refine (hasDates_is b0 b1 false _ HC.out).mono ?_); rintro e w3 ⟨rfl, hb3⟩; obtain ⟨hc3, hf3⟩ := bcell hb3; have hz3 := hb3.size; simp at hz3; have F3 := (hf3 (w.heap.size + 1 + 1) 0 (by simp; omega)); have F4 := (hf3 (w.heap.size + 1 + 1) 1 (by simp; omega)); have D0 : w3.cell? ⟨w.heap.size + 1 + 1, 0, none⟩ = some (.int .i64 0) := (by rw [hc3 _ _ (by simp; omega)]; simp [go_sem, hc1, hc2, s2, s3, s7]); have D1 : w3.cell? ⟨w.heap.size + 1 + 1, 1, none⟩ = some (.int .i64 0) := (by rw [hc3 _ _ (by simp; omega)]; simp [go_sem, hc1, hc2, s2, s3, s7]); have s4 : w.heap.size + 1 + 1 < w3.heap.size := (by omega); have s5 : w2.heap.size < w3.heap.size := (by omega))
            | (go_at_call 49; (with_reducible refine (hasDates_is a0 a1 true _ HA.out).mono ?_); rintro e w1 ⟨rfl, hb1⟩; obtain ⟨hc1, hf1⟩ := bcell hb1; have hz1 := hb1.size; simp at hz1; have s0 : w.heap.size < w1.heap.size := (by omega); have s1 : w.heap.size + 1 < w1.heap.size := (by omega); have s2 : w.heap.size + 1 + 1 < w1.heap.size := by omega)
            | (go_at_call 49; (with_reducible refine (hasDates_is b0 b1 true _ HB.out).mono ?_); rintro e w2 ⟨rfl, hb2⟩; obtain ⟨hc2, hf2⟩ := bcell hb2; have hz2 := hb2.size; have s3 : w.heap.size + 1 + 1 < w2.heap.size := (by omega); have s6 : w.heap.size + 1 + 1 < w2.heap.size + 1 := (by omega); have s7 := Nat.ne_of_lt s3)
            | fail)
          refine bodyPost_ret (v := .tuple #[.agg #[.int .i64 0, .int .i64 0], .bool false]) (by simp [results, Tryd.results30, go_sem, D0, D1, s4]) rfl ⟨rfl, ?_⟩
          have t0 : Below w.heap.size w w2 := (((((Below.refl _ _).alloc (Nat.le_refl _) _).alloc (by simp) _).alloc (by simp; omega) _).trans (hb1.mono (by simp; omega))).trans (hb2.mono (by omega))
          have t1 : Below w.heap.size w w3 := tr (t0.alloc (by omega) _) hb3
          exact (t1.setCell (by simp; omega) _).setCell (by simp; omega) _
        · rw [if_pos (by simp)] at h
          cases h
          go_enter Tryd.func30, Tryd.ntmps30
          go_wp2_with (first
            | (go_at_call 49; have _behind := hb2; (with_reducible refine (hasDates_is b0 b1 true _ HC.out).mono ?_); rintro e w3 ⟨rfl, hb3⟩; obtain ⟨hc3, hf3⟩ := bcell hb3; have hz3 := hb3.size; simp at hz3; have F3 := (hf3 (w.heap.size + 1 + 1) 0 (by simp; omega)); have F4 := (hf3 (w.heap.size + 1 + 1) 1 (by simp; omega)); have D0 : w3.cell? ⟨w.heap.size + 1 + 1, 0, none⟩ = some (.int .i64 0) := (by rw [hc3 _ _ (by simp; omega)]; simp [go_sem, hc1, hc2, s2, s3, s7]); have D1 : w3.cell? ⟨w.heap.size + 1 + 1, 1, none⟩ = some (.int .i64 0) := (by rw [hc3 _ _ (by simp; omega)]; simp [go_sem, hc1, hc2, s2, s3, s7]); have s4 : w.heap.size + 1 + 1 < w3.heap.size := (by omega); have s5 : w2.heap.size < w3.heap.size := (by omega))
            | (go_at_call 49; (with_reducible refine (hasDates_is a0 a1 true _ HA.out).mono ?_); rintro e w1 ⟨rfl, hb1⟩; obtain ⟨hc1, hf1⟩ := bcell hb1; have hz1 := hb1.size; simp at hz1; have s0 : w.heap.size < w1.heap.size := (by omega); have s1 : w.heap.size + 1 < w1.heap.size := (by omega); have s2 : w.heap.size + 1 + 1 < w1.heap.size := by omega)
            | (go_at_call 49; (with_reducible refine (hasDates_is b0 b1 true _ HB.out).mono ?_); rintro e w2 ⟨rfl, hb2⟩; obtain ⟨hc2, hf2⟩ := bcell hb2; have hz2 := hb2.size; have s3 : w.heap.size + 1 + 1 < w2.heap.size := (by omega); have s6 : w.heap.size + 1 + 1 < w2.heap.size + 1 := (by omega); have s7 := Nat.ne_of_lt s3)
            | fail)
          refine bodyPost_ret (v := .tuple #[.agg #[.int .i64 b0, .int .i64 b1], .bool true]) (by simp [results, Tryd.results30, go_sem, D0, D1, s4]) rfl ⟨rfl, ?_⟩
          have t0 : Below w.heap.size w w2 := (((((Below.refl _ _).alloc (Nat.le_refl _) _).alloc (by simp) _).alloc (by simp; omega) _).trans (hb1.mono (by simp; omega))).trans (hb2.mono (by omega))
          have t1 : Below w.heap.size w w3 := tr (t0.alloc (by omega) _) hb3
          exact (t1.setCell (by simp; omega) _).setCell (by simp; omega) _
      · rw [Int.max_eq_right (show a0 ≤ b0 by omega), Int.min_eq_left (show a1 ≤ b1 by omega)] at h
        obtain ⟨vc, hvc⟩ : ∃ v, neR (b0, a1) = v := ⟨_, rfl⟩
        rw [hvc] at h
        have HC := Lib.hid hvc
        clear hvc
        cases vc
        · rw [if_neg (by simp)] at h
          cases h
          go_enter Tryd.func30, Tryd.ntmps30
          go_wp2_with (first
            | (go_at_call 49; have _behind := hb2; (with_reducible refine (hasDates_is b0 a1 false _ HC.out).mono ?_); rintro e w3 ⟨rfl, hb3⟩; obtain ⟨hc3, hf3⟩ := bcell hb3; have hz3 := hb3.size; simp at hz3; have F3 := (hf3 (w.heap.size + 1 + 1) 0 (by simp; omega)); have F4 := (hf3 (w.heap.size + 1 + 1) 1 (by simp; omega)); have D0 : w3.cell? ⟨w.heap.size + 1 + 1, 0, none⟩ = some (.int .i64 0) := (by rw [hc3 _ _ (by simp; omega)]; simp [go_sem, hc1, hc2, s2, s3, s7]); have D1 : w3.cell? ⟨w.heap.size + 1 + 1, 1, none⟩ = some (.int .i64 0) := (by rw [hc3 _ _ (by simp; omega)]; simp [go_sem, hc1, hc2, s2, s3, s7]); have s4 : w.heap.size + 1 + 1 < w3.heap.size := (by omega); have s5 : w2.heap.size < w3.heap.size := (by omega))
            | (go_at_call 49; (with_reducible refine (hasDates_is a0 a1 true _ HA.out).mono ?_); rintro e w1 ⟨rfl, hb1⟩; obtain ⟨hc1, hf1⟩ := bcell hb1; have hz1 := hb1.size; simp at hz1; have s0 : w.heap.size < w1.heap.size := (by omega); have s1 : w.heap.size + 1 < w1.heap.size := (by omega); have s2 : w.heap.size + 1 + 1 < w1.heap.size := by omega)
            | (go_at_call 49; (with_reducible refine (hasDates_is b0 b1 true _ HB.out).mono ?_); rintro e w2 ⟨rfl, hb2⟩; obtain ⟨hc2, hf2⟩ := bcell hb2; have hz2 := hb2.size; have s3 : w.heap.size + 1 + 1 < w2.heap.size := (by omega); have s6 : w.heap.size + 1 + 1 < w2.heap.size + 1 := (by omega); have s7 := Nat.ne_of_lt s3)
            | fail)
          refine bodyPost_ret (v := .tuple #[.agg #[.int .i64 0, .int .i64 0], .bool false]) (by simp [results, Tryd.results30, go_sem, D0, D1, s4]) rfl ⟨rfl, ?_⟩
          have t0 : Below w.heap.size w w2 := (((((Below.refl _ _).alloc (Nat.le_refl _) _).alloc (by simp) _).alloc (by simp; omega) _).trans (hb1.mono (by simp; omega))).trans (hb2.mono (by omega))
          have t1 : Below w.heap.size w w3 := tr (t0.alloc (by omega) _) hb3
          exact (t1.setCell (by simp; omega) _).setCell (by simp; omega) _
        · rw [if_pos (by simp)] at h
          cases h
          go_enter Tryd.func30, Tryd.ntmps30
          go_wp2_with (first
            | (go_at_call 49; have _behind := hb2; (with_reducible refine (hasDates_is b0 a1 true _ HC.out).mono ?_); rintro e w3 ⟨rfl, hb3⟩; obtain ⟨hc3, hf3⟩ := bcell hb3; have hz3 := hb3.size; simp at hz3; have F3 := (hf3 (w.heap.size + 1 + 1) 0 (by simp; omega)); have F4 := (hf3 (w.heap.size + 1 + 1) 1 (by simp; omega)); have D0 : w3.cell? ⟨w.heap.size + 1 + 1, 0, none⟩ = some (.int .i64 0) := (by rw [hc3 _ _ (by simp; omega)]; simp [go_sem, hc1, hc2, s2, s3, s7]); have D1 : w3.cell? ⟨w.heap.size + 1 + 1, 1, none⟩ = some (.int .i64 0) := (by rw [hc3 _ _ (by simp; omega)]; simp [go_sem, hc1, hc2, s2, s3, s7]); have s4 : w.heap.size + 1 + 1 < w3.heap.size := (by omega); have s5 : w2.heap.size < w3.heap.size := (by omega))
            | (go_at_call 49; (with_reducible refine (hasDates_is a0 a1 true _ HA.out).mono ?_); rintro e w1 ⟨rfl, hb1⟩; obtain ⟨hc1, hf1⟩ := bcell hb1; have hz1 := hb1.size; simp at hz1; have s0 : w.heap.size < w1.heap.size := (by omega); have s1 : w.heap.size + 1 < w1.heap.size := (by omega); have s2 : w.heap.size + 1 + 1 < w1.heap.size := by omega)
            | (go_at_call 49; (with_reducible refine (hasDates_is b0 b1 true _ HB.out).mono ?_); rintro e w2 ⟨rfl, hb2⟩; obtain ⟨hc2, hf2⟩ := bcell hb2; have hz2 := hb2.size; have s3 : w.heap.size + 1 + 1 < w2.heap.size := (by omega); have s6 : w.heap.size + 1 + 1 < w2.heap.size + 1 := (by omega); have s7 := Nat.ne_of_lt s3)
            | fail)
          refine bodyPost_ret (v := .tuple #[.agg #[.int .i64 b0, .int .i64 a1], .bool true]) (by simp [results, Tryd.results30, go_sem, D0, D1, s4]) rfl ⟨rfl, ?_⟩
          have t0 : Below w.heap.size w w2 := (((((Below.refl _ _).alloc (Nat.le_refl _) _).alloc (by simp) _).alloc (by simp; omega) _).trans (hb1.mono (by simp; omega))).trans (hb2.mono (by omega))
          have t1 : Below w.heap.size w w3 := tr (t0.alloc (by omega) _) hb3
          exact (t1.setCell (by simp; omega) _).setCell (by simp; omega) _
      · rw [Int.max_eq_left (show b0 ≤ a0 by omega), Int.min_eq_right (show b1 ≤ a1 by omega)] at h
        obtain ⟨vc, hvc⟩ : ∃ v, neR (a0, b1) = v := ⟨_, rfl⟩
        rw [hvc] at h
        have HC := Lib.hid hvc
        clear hvc
        cases vc
        · rw [if_neg (by simp)] at h
          cases h
          go_enter Tryd.func30, Tryd.ntmps30
          go_wp2_with (first
            | (go_at_call 49; have _behind := hb2; (with_reducible refine (hasDates_is a0 b1 false _ HC.out).mono ?_); rintro e w3 ⟨rfl, hb3⟩; obtain ⟨hc3, hf3⟩ := bcell hb3; have hz3 := hb3.size; simp at hz3; have F3 := (hf3 (w.heap.size + 1 + 1) 0 (by simp; omega)); have F4 := (hf3 (w.heap.size + 1 + 1) 1 (by simp; omega)); have D0 : w3.cell? ⟨w.heap.size + 1 + 1, 0, none⟩ = some (.int .i64 0) := (by rw [hc3 _ _ (by simp; omega)]; simp [go_sem, hc1, hc2, s2, s3, s7]); have D1 : w3.cell? ⟨w.heap.size + 1 + 1, 1, none⟩ = some (.int .i64 0) := (by rw [hc3 _ _ (by simp; omega)]; simp [go_sem, hc1, hc2, s2, s3, s7]); have s4 : w.heap.size + 1 + 1 < w3.heap.size := (by omega); have s5 : w2.heap.size < w3.heap.size := (by omega))
            | (go_at_call 49; (with_reducible refine (hasDates_is a0 a1 true _ HA.out).mono ?_); rintro e w1 ⟨rfl, hb1⟩; obtain ⟨hc1, hf1⟩ := bcell hb1; have hz1 := hb1.size; simp at hz1; have s0 : w.heap.size < w1.heap.size := (by omega); have s1 : w.heap.size + 1 < w1.heap.size := (by omega); have s2 : w.heap.size + 1 + 1 < w1.heap.size := by omega)
            | (go_at_call 49; (with_reducible refine (hasDates_is b0 b1 true _ HB.out).mono ?_); rintro e w2 ⟨rfl, hb2⟩; obtain ⟨hc2, hf2⟩ := bcell hb2; have hz2 := hb2.size; have s3 : w.heap.size + 1 + 1 < w2.heap.size := (by omega); have s6 : w.heap.size + 1 + 1 < w2.heap.size + 1 := (by omega); have s7 := Nat.ne_of_lt s3)
            | fail)
          refine bodyPost_ret (v := .tuple #[.agg #[.int .i64 0, .int .i64 0], .bool false]) (by simp [results, Tryd.results30, go_sem, D0, D1, s4]) rfl ⟨rfl, ?_⟩
          have t0 : Below w.heap.size w w2 := (((((Below.refl _ _).alloc (Nat.le_refl _) _).alloc (by simp) _).alloc (by simp; omega) _).trans (hb1.mono (by simp; omega))).trans (hb2.mono (by omega))
          have t1 : Below w.heap.size w w3 := tr (t0.alloc (by omega) _) hb3
          exact (t1.setCell (by simp; omega) _).setCell (by simp; omega) _
        · rw [if_pos (by simp)] at h
          cases h
          go_enter Tryd.func30, Tryd.ntmps30
          go_wp2_with (first
            | (go_at_call 49; have _behind := hb2; (with_reducible refine (hasDates_is a0 b1 true _ HC.out).mono ?_); rintro e w3 ⟨rfl, hb3⟩; obtain ⟨hc3, hf3⟩ := bcell hb3; have hz3 := hb3.size; simp at hz3; have F3 := (hf3 (w.heap.size + 1 + 1) 0 (by simp; omega)); have F4 := (hf3 (w.heap.size + 1 + 1) 1 (by simp; omega)); have D0 : w3.cell? ⟨w.heap.size + 1 + 1, 0, none⟩ = some (.int .i64 0) := (by rw [hc3 _ _ (by simp; omega)]; simp [go_sem, hc1, hc2, s2, s3, s7]); have D1 : w3.cell? ⟨w.heap.size + 1 + 1, 1, none⟩ = some (.int .i64 0) := (by rw [hc3 _ _ (by simp; omega)]; simp [go_sem, hc1, hc2, s2, s3, s7]); have s4 : w.heap.size + 1 + 1 < w3.heap.size := (by omega); have s5 : w2.heap.size < w3.heap.size := (by omega))
            | (go_at_call 49; (with_reducible refine (hasDates_is a0 a1 true _ HA.out).mono ?_); rintro e w1 ⟨rfl, hb1⟩; obtain ⟨hc1, hf1⟩ := bcell hb1; have hz1 := hb1.size; simp at hz1; have s0 : w.heap.size < w1.heap.size := (by omega); have s1 : w.heap.size + 1 < w1.heap.size := (by omega); have s2 : w.heap.size + 1 + 1 < w1.heap.size := by omega)
            | (go_at_call 49; (with_reducible refine (hasDates_is b0 b1 true _ HB.out).mono ?_); rintro e w2 ⟨rfl, hb2⟩; obtain ⟨hc2, hf2⟩ := bcell hb2; have hz2 := hb2.size; have s3 : w.heap.size + 1 + 1 < w2.heap.size := (by omega); have s6 : w.heap.size + 1 + 1 < w2.heap.size + 1 := (by omega); have s7 := Nat.ne_of_lt s3)
            | fail)
          refine bodyPost_ret (v := .tuple #[.agg #[.int .i64 a0, .int .i64 b1], .bool true]) (by simp [results, Tryd.results30, go_sem, D0, D1, s4]) rfl ⟨rfl, ?_⟩
          have t0 : Below w.heap.size w w2 := (((((Below.refl _ _).alloc (Nat.le_refl _) _).alloc (by simp) _).alloc (by simp; omega) _).trans (hb1.mono (by simp; omega))).trans (hb2.mono (by omega))
          have t1 : Below w.heap.size w w3 := tr (t0.alloc (by omega) _) hb3
          exact (t1.setCell (by simp; omega) _).setCell (by simp; omega) _
      · rw [Int.max_eq_left (show b0 ≤ a0 by omega), Int.min_eq_left (show a1 ≤ b1 by omega)] at h
        obtain ⟨vc, hvc⟩ : ∃ v, neR (a0, a1) = v := ⟨_, rfl⟩
        rw [hvc] at h
        have HC := Lib.hid hvc
        clear hvc
        cases vc
        · rw [if_neg (by simp)] at h
          cases h
          go_enter Tryd.func30, Tryd.ntmps30
          go_wp2_with (first
            | (go_at_call 49; have _behind := hb2; (with_reducible refine (hasDates_is a0 a1 false _ HC.out).mono ?_); rintro e w3 ⟨rfl, hb3⟩; obtain ⟨hc3, hf3⟩ := bcell hb3; have hz3 := hb3.size; simp at hz3; have F3 := (hf3 (w.heap.size + 1 + 1) 0 (by simp; omega)); have F4 := (hf3 (w.heap.size + 1 + 1) 1 (by simp; omega)); have D0 : w3.cell? ⟨w.heap.size + 1 + 1, 0, none⟩ = some (.int .i64 0) := (by rw [hc3 _ _ (by simp; omega)]; simp [go_sem, hc1, hc2, s2, s3, s7]); have D1 : w3.cell? ⟨w.heap.size + 1 + 1, 1, none⟩ = some (.int .i64 0) := (by rw [hc3 _ _ (by simp; omega)]; simp [go_sem, hc1, hc2, s2, s3, s7]); have s4 : w.heap.size + 1 + 1 < w3.heap.size := (by omega); have s5 : w2.heap.size < w3.heap.size := (by omega))
            | (go_at_call 49; (with_reducible refine (hasDates_is a0 a1 true _ HA.out).mono ?_); rintro e w1 ⟨rfl, hb1⟩; obtain ⟨hc1, hf1⟩ := bcell hb1; have hz1 := hb1.size; simp at hz1; have s0 : w.heap.size < w1.heap.size := (by omega); have s1 : w.heap.size + 1 < w1.heap.size := (by omega); have s2 : w.heap.size + 1 + 1 < w1.heap.size := by omega)
            | (go_at_call 49; (with_reducible refine (hasDates_is b0 b1 true _ HB.out).mono ?_); rintro e w2 ⟨rfl, hb2⟩; obtain ⟨hc2, hf2⟩ := bcell hb2; have hz2 := hb2.size; have s3 : w.heap.size + 1 + 1 < w2.heap.size := (by omega); have s6 : w.heap.size + 1 + 1 < w2.heap.size + 1 := (by omega); have s7 := Nat.ne_of_lt s3)
            | fail)
          refine bodyPost_ret (v := .tuple #[.agg #[.int .i64 0, .int .i64 0], .bool false]) (by simp [results, Tryd.results30, go_sem, D0, D1, s4]) rfl ⟨rfl, ?_⟩
          have t0 : Below w.heap.size w w2 := (((((Below.refl _ _).alloc (Nat.le_refl _) _).alloc (by simp) _).alloc (by simp; omega) _).trans (hb1.mono (by simp; omega))).trans (hb2.mono (by omega))
          have t1 : Below w.heap.size w w3 := tr (t0.alloc (by omega) _) hb3
          exact (t1.setCell (by simp; omega) _).setCell (by simp; omega) _
        · rw [if_pos (by simp)] at h
          cases h
          go_enter Tryd.func30, Tryd.ntmps30
          go_wp2_with (first
            | (go_at_call 49; have _behind := hb2; (with_reducible refine (hasDates_is a0 a1 true _ HC.out).mono ?_); rintro e w3 ⟨rfl, hb3⟩; obtain ⟨hc3, hf3⟩ := bcell hb3; have hz3 := hb3.size; simp at hz3; have F3 := (hf3 (w.heap.size + 1 + 1) 0 (by simp; omega)); have F4 := (hf3 (w.heap.size + 1 + 1) 1 (by simp; omega)); have D0 : w3.cell? ⟨w.heap.size + 1 + 1, 0, none⟩ = some (.int .i64 0) := (by rw [hc3 _ _ (by simp; omega)]; simp [go_sem, hc1, hc2, s2, s3, s7]); have D1 : w3.cell? ⟨w.heap.size + 1 + 1, 1, none⟩ = some (.int .i64 0) := (by rw [hc3 _ _ (by simp; omega)]; simp [go_sem, hc1, hc2, s2, s3, s7]); have s4 : w.heap.size + 1 + 1 < w3.heap.size := (by omega); have s5 : w2.heap.size < w3.heap.size := (by omega))
            | (go_at_call 49; (with_reducible refine (hasDates_is a0 a1 true _ HA.out).mono ?_); rintro e w1 ⟨rfl, hb1⟩; obtain ⟨hc1, hf1⟩ := bcell hb1; have hz1 := hb1.size; simp at hz1; have s0 : w.heap.size < w1.heap.size := (by omega); have s1 : w.heap.size + 1 < w1.heap.size := (by omega); have s2 : w.heap.size + 1 + 1 < w1.heap.size := by omega)
            | (go_at_call 49; (with_reducible refine (hasDates_is b0 b1 true _ HB.out).mono ?_); rintro e w2 ⟨rfl, hb2⟩; obtain ⟨hc2, hf2⟩ := bcell hb2; have hz2 := hb2.size; have s3 : w.heap.size + 1 + 1 < w2.heap.size := (by omega); have s6 : w.heap.size + 1 + 1 < w2.heap.size + 1 := (by omega); have s7 := Nat.ne_of_lt s3)
            | fail)
          refine bodyPost_ret (v := .tuple #[.agg #[.int .i64 a0, .int .i64 a1], .bool true]) (by simp [results, Tryd.results30, go_sem, D0, D1, s4]) rfl ⟨rfl, ?_⟩
          have t0 : Below w.heap.size w w2 := (((((Below.refl _ _).alloc (Nat.le_refl _) _).alloc (by simp) _).alloc (by simp; omega) _).trans (hb1.mono (by simp; omega))).trans (hb2.mono (by omega))
          have t1 : Below w.heap.size w w3 := tr (t0.alloc (by omega) _) hb3
          exact (t1.setCell (by simp; omega) _).setCell (by simp; omega) _
end Go.Proofs.YtmmohbmgodiilaaDoor.rng
