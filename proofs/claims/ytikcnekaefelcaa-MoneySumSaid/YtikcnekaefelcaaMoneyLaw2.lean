/-
  The law MoneySum walked.
-/
import Derived.Test.YtikcnekaefelcaaMoneyLaw1
import Derived.Test.YtikcnekaefelcaaIntsApp
namespace Go.Proofs.Ytikcnekaefelcaa.money
open Go Go.RowKit Go.Proofs.Ytikcnekaefelcaa.ints
set_option linter.unusedVariables false

set_option maxHeartbeats 2000000 in
theorem walk_MoneySum (v : Value) (l : List Int) (n : Int) (wn : In64 n) (w : World) (hv : Ints w v l) (hz : ∀ z ∈ l, In64 z) :
    Calls Try.prog 8 #[v, .int .i64 n] w (True64 w) := by
  obtain ⟨A, cp, rfl⟩ := hv.form0
  have HV := Lib.hid hv
  have hm := hv.1
  clear hv wn hz
  by_cases hl : 300 < l.length
  · go_enter Try.func8, Try.ntmps8
    go_wp2_with (go_at_call 12; refine (awake_is _).mono ?_; rintro e w3 ⟨rfl, hb3⟩)
    go_ret
    exact ⟨rfl, hb3⟩
  · obtain ⟨a, c, h⟩ : ∃ a c, sumR l = (a, c) := ⟨_, _, rfl⟩
    have hs : sumR (l ++ [n]) = _ := sumFrom_snoc 0 l n
    rw [show sumFrom 0 l = (a, c) from h] at hs
    have H := Lib.hid h
    have hlen : (([] : List Int) ++ l).length ≤ 1000000 := by simp; omega
    by_cases hc : c = 0 ∧ (beyond n 1000000000000000 || beyond (a + n) 1000000000000000) = false
    · obtain ⟨rfl, hb⟩ := hc
      · simp only [hb, if_neg (by decide : ¬ (false = true))] at hs
        rw [Bool.or_eq_false_iff] at hb
        obtain ⟨t0, t1⟩ := beyond_in hb.2
        have HS := Lib.hid hs
        clear h hs hb
        go_enter Try.func8, Try.ntmps8
        go_wp2_with (first
          | (go_at_call 22; (with_reducible refine (Sum_is _ l a 0 _ HV.out H.out).mono ?_); rintro e w1 ⟨rfl, hb1⟩)
          | (go_at_call 23; refine (rSum_is _ l a 0 _ (HV.out.below hb1) H.out).mono ?_; rintro e w2 ⟨rfl, rfl⟩)
          | (at_builtin; refine wpList_append_ints rfl _ _ rfl w1.heap.size _ [] l rfl (World.ownsRow_lit w1 #[] 0 (Nat.le_refl _) (by decide) (by simp)) _ rfl ((HV.out.below hb1).below (al (Below.refl _ _) _)) (by simp; omega) (by simp) ?_; intro v3 w3 hown3 hg3 hat3)
          | (at_builtin; refine wpList_append_int rfl _ _ rfl w1.heap.size _ ([] ++ l) rfl hown3 n rfl hlen (Nat.le_trans (by simp) hg3.size) ?_; intro v4 w4 hown4 hg4)
          | (go_at_call 22; refine (Sum_is v4 (l ++ [n]) (a + n) 0 _ (Ints.of_own hown4 (by simp; omega)) HS.out).mono ?_; rintro e w5 ⟨rfl, hb5⟩)
          | (go_at_call 12; refine (awake_is _).mono ?_; rintro e w6 ⟨rfl, hb6⟩)
          | fail)
        go_ret
        have b3 := grow (al hb1 _) hg3 (fun k hk => by cases hk; exact hb1.size)
        have b4 := grow (al b3 _) hg4 (fun k hk => Nat.le_trans hb1.size (hown3.lt k hk).1)
        exact ⟨rfl, tr (tr b4 hb5) hb6⟩
    · have hs2 : sumR (l ++ [n]) = (0, 3) := by
        rw [hs]
        by_cases h0 : c = 0
        · rw [if_pos h0, if_pos (by
            cases hb : (beyond n 1000000000000000 || beyond (a + n) 1000000000000000)
            · exact absurd ⟨h0, hb⟩ hc
            · rfl)]
        · rw [if_neg h0]
      · have HS := Lib.hid hs2
        clear h hs hc hs2
        go_enter Try.func8, Try.ntmps8
        go_wp2_with (first
          | (go_at_call 22; (with_reducible refine (Sum_is _ l a c _ HV.out H.out).mono ?_); rintro e w1 ⟨rfl, hb1⟩)
          | (go_at_call 23; refine (rSum_is _ l a c _ (HV.out.below hb1) H.out).mono ?_; rintro e w2 ⟨rfl, rfl⟩)
          | (at_builtin; refine wpList_append_ints rfl _ _ rfl w1.heap.size _ [] l rfl (World.ownsRow_lit w1 #[] 0 (Nat.le_refl _) (by decide) (by simp)) _ rfl ((HV.out.below hb1).below (al (Below.refl _ _) _)) (by simp; omega) (by simp) ?_; intro v3 w3 hown3 hg3 hat3)
          | (at_builtin; refine wpList_append_int rfl _ _ rfl w1.heap.size _ ([] ++ l) rfl hown3 n rfl hlen (Nat.le_trans (by simp) hg3.size) ?_; intro v4 w4 hown4 hg4)
          | (go_at_call 22; refine (Sum_is v4 (l ++ [n]) 0 3 _ (Ints.of_own hown4 (by simp; omega)) HS.out).mono ?_; rintro e w5 ⟨rfl, hb5⟩)
          | (go_at_call 12; refine (awake_is _).mono ?_; rintro e w6 ⟨rfl, hb6⟩)
          | fail)
        go_ret
        have b3 := grow (al hb1 _) hg3 (fun k hk => by cases hk; exact hb1.size)
        have b4 := grow (al b3 _) hg4 (fun k hk => Nat.le_trans hb1.size (hown3.lt k hk).1)
        exact ⟨rfl, tr (tr b4 hb5) hb6⟩
end Go.Proofs.Ytikcnekaefelcaa.money
