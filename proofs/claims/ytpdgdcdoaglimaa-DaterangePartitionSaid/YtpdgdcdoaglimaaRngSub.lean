/-
  The reference's Subtract walked.
-/
import Derived.Test.YtpdgdcdoaglimaaRngUnion
namespace Go.Proofs.Ytpdgdcdoaglimaa.rng
open Go Go.RowKit Go.Proofs.Ytpdgdcdoaglimaa.money
set_option linter.unusedVariables false
set_option linter.unusedSimpArgs false

theorem Rgs.one (w : World) (k : Nat) (x y : Int) (c : Nat) (hk : k = w.heap.size) : Rgs (w.alloc (.cells #[.int .i64 x, .int .i64 y] 23)) (.slice (some ⟨k, 0, none⟩) 1 c) [(x, y)] := by
  subst hk
  refine ⟨by simp, .inr ⟨w.heap.size, 0, c, rfl, by simp, fun i r hi => ?_⟩⟩
  match i with
  | 0 => simp at hi; subst hi; exact ⟨by simp [go_sem], by simp [go_sem]⟩
  | i + 1 => simp at hi

set_option maxHeartbeats 2000000 in
theorem rSubtract_is (a0 a1 b0 b1 : Int) (res : List R) (w : World) (h : subR (a0, a1) (b0, b1) = res) :
    Calls Try.prog 17 #[.agg #[.int .i64 a0, .int .i64 a1], .agg #[.int .i64 b0, .int .i64 b1]] w (GivesL w res) := by
  obtain ⟨va, hva⟩ : ∃ v, neR (a0, a1) = v := ⟨_, rfl⟩
  obtain ⟨⟨⟨c0, c1⟩, t⟩, hi⟩ : ∃ r, interR (a0, a1) (b0, b1) = r := ⟨_, rfl⟩
  unfold subR at h
  rw [hva, hi] at h
  simp only at h
  have HA := Lib.hid hva
  have HI := Lib.hid hi
  clear hva hi
  cases va
  · rw [if_neg (by decide)] at h
    subst h
    go_enter Try.func17, Try.ntmps17
    go_wp2_with (go_at_call 30; refine (rNonempty_is a0 a1 false _ HA.out).mono ?_; rintro e w1 ⟨rfl, hb1⟩)
    go_ret
    exact ⟨_, rfl, Rgs.nil _ _ _, tr (((Below.refl _ _).alloc (Nat.le_refl _) _).alloc (by simp) _) hb1⟩
  · rw [if_pos rfl] at h
    cases t
    · rw [if_neg (by decide)] at h
      subst h
      go_enter Try.func17, Try.ntmps17
      go_wp2_with (first
        | (go_at_call 30; refine (rNonempty_is a0 a1 true _ HA.out).mono ?_; rintro e w1 ⟨rfl, hb1⟩; obtain ⟨hc1, hf1⟩ := bcell hb1; have hz1 := hb1.size; simp at hz1; have s0 : w.heap.size < w1.heap.size := (by omega); have s1 : w.heap.size + 1 < w1.heap.size := (by omega))
        | (go_at_call 10; refine (rIntersect_is a0 a1 b0 b1 c0 c1 false _ HI.out).mono ?_; rintro e w2 ⟨rfl, hb2⟩; obtain ⟨hc2, hf2⟩ := bcell hb2; have hz2 := hb2.size; have s2 : w.heap.size < w2.heap.size := (by omega); have s3 : w.heap.size + 1 < w2.heap.size := (by omega); have B0 := Lib.hid (tr (tr (((Below.refl w.heap.size w).alloc (Nat.le_refl _) _).alloc (by simp) _) hb1) hb2))
        | fail)
      go_ret
      exact ⟨_, rfl, Rgs.one _ _ _ _ _ (by simp), al (al B0.out _) _⟩
    · rw [if_pos rfl] at h
      by_cases g1 : a0 < c0
      · rw [if_pos g1] at h
        by_cases g2 : c1 < a1
        · rw [if_pos g2] at h
          subst h
          go_enter Try.func17, Try.ntmps17
          go_wp2_with (first
            | (go_at_call 30; refine (rNonempty_is a0 a1 true _ HA.out).mono ?_; rintro e w1 ⟨rfl, hb1⟩; obtain ⟨hc1, hf1⟩ := bcell hb1; have hz1 := hb1.size; simp at hz1; have s0 : w.heap.size < w1.heap.size := (by omega); have s1 : w.heap.size + 1 < w1.heap.size := (by omega))
            | (go_at_call 10; refine (rIntersect_is a0 a1 b0 b1 c0 c1 true _ HI.out).mono ?_; rintro e w2 ⟨rfl, hb2⟩; obtain ⟨hc2, hf2⟩ := bcell hb2; have hz2 := hb2.size; have s2 : w.heap.size < w2.heap.size := (by omega); have s3 : w.heap.size + 1 < w2.heap.size := (by omega); have B0 := Lib.hid (tr (tr (((Below.refl w.heap.size w).alloc (Nat.le_refl _) _).alloc (by simp) _) hb1) hb2))
            | (at_builtin; refine wpList_append_rng_k rfl _ _ rfl w.heap.size (.slice none 0 0) [] rfl (World.ownsRow_nil _ _ _ _) a0 c0 _ rfl (by simp) (by simp) (by simp; omega) ?_; intro v' w3 hown1 hg1; have d0 := hg1.cell (a := ⟨w.heap.size, 0, none⟩) (v := .int .i64 a0) (by simp [go_sem, hc1, hc2, s0, s1, s2, s3, Nat.ne_of_lt s2]) (by simp [Value.ownBlock]); have d1 := hg1.cell (a := ⟨w.heap.size, 1, none⟩) (v := .int .i64 a1) (by simp [go_sem, hc1, hc2, s0, s1, s2, s3, Nat.ne_of_lt s2]) (by simp [Value.ownBlock]); have e0 := hg1.cell (a := ⟨w2.heap.size, 0, none⟩) (v := .int .i64 c0) (by simp [go_sem, hc1, hc2, s0, s1, s2, s3, Nat.ne_of_lt s2]) (by simp [Value.ownBlock]); have e1 := hg1.cell (a := ⟨w2.heap.size, 1, none⟩) (v := .int .i64 c1) (by simp [go_sem, hc1, hc2, s0, s1, s2, s3, Nat.ne_of_lt s2]) (by simp [Value.ownBlock]); have hz3 := hg1.size; simp at hz3; have s4 : w.heap.size ≤ w3.heap.size := (by omega); have B1 := Lib.hid (grow (al (al B0.out _) _) hg1 (fun k hk => by cases hk)))
            | (at_builtin; refine wpList_append_rng rfl _ _ rfl w.heap.size v' [(a0, c0)] rfl hown1 c1 a1 rfl (by simp) (by omega) ?_; intro v'' w4 hown2 hg2; have B2 := Lib.hid (grow (al B1.out _) hg2 (fun k hk => (hown1.lt k hk).1)))
            | fail)
          go_ret
          exact ⟨_, rfl, Rgs.of_own hown2 (by simp), B2.out⟩
        · rw [if_neg g2] at h
          subst h
          go_enter Try.func17, Try.ntmps17
          go_wp2_with (first
            | (go_at_call 30; refine (rNonempty_is a0 a1 true _ HA.out).mono ?_; rintro e w1 ⟨rfl, hb1⟩; obtain ⟨hc1, hf1⟩ := bcell hb1; have hz1 := hb1.size; simp at hz1; have s0 : w.heap.size < w1.heap.size := (by omega); have s1 : w.heap.size + 1 < w1.heap.size := (by omega))
            | (go_at_call 10; refine (rIntersect_is a0 a1 b0 b1 c0 c1 true _ HI.out).mono ?_; rintro e w2 ⟨rfl, hb2⟩; obtain ⟨hc2, hf2⟩ := bcell hb2; have hz2 := hb2.size; have s2 : w.heap.size < w2.heap.size := (by omega); have s3 : w.heap.size + 1 < w2.heap.size := (by omega); have B0 := Lib.hid (tr (tr (((Below.refl w.heap.size w).alloc (Nat.le_refl _) _).alloc (by simp) _) hb1) hb2))
            | (at_builtin; refine wpList_append_rng_k rfl _ _ rfl w.heap.size (.slice none 0 0) [] rfl (World.ownsRow_nil _ _ _ _) a0 c0 _ rfl (by simp) (by simp) (by simp; omega) ?_; intro v' w3 hown1 hg1; have d0 := hg1.cell (a := ⟨w.heap.size, 0, none⟩) (v := .int .i64 a0) (by simp [go_sem, hc1, hc2, s0, s1, s2, s3, Nat.ne_of_lt s2]) (by simp [Value.ownBlock]); have d1 := hg1.cell (a := ⟨w.heap.size, 1, none⟩) (v := .int .i64 a1) (by simp [go_sem, hc1, hc2, s0, s1, s2, s3, Nat.ne_of_lt s2]) (by simp [Value.ownBlock]); have e0 := hg1.cell (a := ⟨w2.heap.size, 0, none⟩) (v := .int .i64 c0) (by simp [go_sem, hc1, hc2, s0, s1, s2, s3, Nat.ne_of_lt s2]) (by simp [Value.ownBlock]); have e1 := hg1.cell (a := ⟨w2.heap.size, 1, none⟩) (v := .int .i64 c1) (by simp [go_sem, hc1, hc2, s0, s1, s2, s3, Nat.ne_of_lt s2]) (by simp [Value.ownBlock]); have hz3 := hg1.size; simp at hz3; have s4 : w.heap.size ≤ w3.heap.size := (by omega); have B1 := Lib.hid (grow (al (al B0.out _) _) hg1 (fun k hk => by cases hk)))
            | fail)
          go_ret
          exact ⟨_, rfl, Rgs.of_own hown1 (by simp), B1.out⟩
      · rw [if_neg g1] at h
        by_cases g2 : c1 < a1
        · rw [if_pos g2] at h
          subst h
          go_enter Try.func17, Try.ntmps17
          go_wp2_with (first
            | (go_at_call 30; refine (rNonempty_is a0 a1 true _ HA.out).mono ?_; rintro e w1 ⟨rfl, hb1⟩; obtain ⟨hc1, hf1⟩ := bcell hb1; have hz1 := hb1.size; simp at hz1; have s0 : w.heap.size < w1.heap.size := (by omega); have s1 : w.heap.size + 1 < w1.heap.size := (by omega))
            | (go_at_call 10; refine (rIntersect_is a0 a1 b0 b1 c0 c1 true _ HI.out).mono ?_; rintro e w2 ⟨rfl, hb2⟩; obtain ⟨hc2, hf2⟩ := bcell hb2; have hz2 := hb2.size; have s2 : w.heap.size < w2.heap.size := (by omega); have s3 : w.heap.size + 1 < w2.heap.size := (by omega); have B0 := Lib.hid (tr (tr (((Below.refl w.heap.size w).alloc (Nat.le_refl _) _).alloc (by simp) _) hb1) hb2))
            | (at_builtin; refine wpList_append_rng_k rfl _ _ rfl w.heap.size (.slice none 0 0) [] rfl (World.ownsRow_nil _ _ _ _) c1 a1 _ rfl (by simp) (by simp) (by simp; omega) ?_; intro v' w3 hown1 hg1; have B1 := Lib.hid (grow (al (al B0.out _) _) hg1 (fun k hk => by cases hk)))
            | fail)
          go_ret
          exact ⟨_, rfl, Rgs.of_own hown1 (by simp), B1.out⟩
        · rw [if_neg g2] at h
          subst h
          go_enter Try.func17, Try.ntmps17
          go_wp2_with (first
            | (go_at_call 30; refine (rNonempty_is a0 a1 true _ HA.out).mono ?_; rintro e w1 ⟨rfl, hb1⟩; obtain ⟨hc1, hf1⟩ := bcell hb1; have hz1 := hb1.size; simp at hz1; have s0 : w.heap.size < w1.heap.size := (by omega); have s1 : w.heap.size + 1 < w1.heap.size := (by omega))
            | (go_at_call 10; refine (rIntersect_is a0 a1 b0 b1 c0 c1 true _ HI.out).mono ?_; rintro e w2 ⟨rfl, hb2⟩; obtain ⟨hc2, hf2⟩ := bcell hb2; have hz2 := hb2.size; have s2 : w.heap.size < w2.heap.size := (by omega); have s3 : w.heap.size + 1 < w2.heap.size := (by omega); have B0 := Lib.hid (tr (tr (((Below.refl w.heap.size w).alloc (Nat.le_refl _) _).alloc (by simp) _) hb1) hb2))
            | fail)
          go_ret
          exact ⟨_, rfl, Rgs.nil _ _ _, al B0.out _⟩
end Go.Proofs.Ytpdgdcdoaglimaa.rng
