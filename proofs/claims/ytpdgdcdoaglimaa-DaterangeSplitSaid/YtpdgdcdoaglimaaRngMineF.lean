/-
  The landed Subtract and Boundaries walked.
-/
import Derived.Test.YtpdgdcdoaglimaaRngMineE
import Derived.Test.YtpdgdcdoaglimaaRngBnd
import Derived.Test.YtpdgdcdoaglimaaIntSort
namespace Go.Proofs.Ytpdgdcdoaglimaa.rng
open Go Go.RowKit Go.Proofs.Ytpdgdcdoaglimaa.money Go.Proofs.Ytpdgdcdoaglimaa.ints
set_option linter.unusedVariables false
set_option linter.unusedSimpArgs false

theorem gaps_one (a b : R) : gapsR [b] a = subR a b := by
  unfold gapsR
  cases h : neR a
  · unfold subR; rw [h]; rfl
  · simp

set_option maxHeartbeats 1000000 in
theorem Subtract_is (a0 a1 b0 b1 : Int) (res : List R) (w : World) (he : Env w) (h : subR (a0, a1) (b0, b1) = res) : Calls Try.prog 16 #[.agg #[.int .i64 a0, .int .i64 a1], .agg #[.int .i64 b0, .int .i64 b1]] w (GivesL w res) := by
  have H := Lib.hid (show gapsR [(b0, b1)] (a0, a1) = res by rw [gaps_one]; exact h)
  clear h
  go_enter Try.func16, Try.ntmps16
  go_wp2_with (go_at_call 22; refine (Gaps_is _ [(b0, b1)] a0 a1 res _ trivial (Rgs.one _ _ _ _ _ (by simp)) (by simp) H.out).mono ?_; rintro e w1 ⟨v1, rfl, hr1, hb1⟩)
  go_ret
  exact ⟨_, rfl, hr1, tr ((((Below.refl _ _).alloc (Nat.le_refl _) _).alloc (by simp) _).alloc (by simp; omega) _) hb1⟩

set_option maxHeartbeats 2000000 in
theorem Boundaries_is (vl : Value) (l : List R) (res : List Int) (w : World) (he : Env w) (hl : Rgs w vl l) (hn : l.length ≤ 100) (h : bndR l = res) : Calls Try.prog 25 #[vl] w (GivesN w res) := by
  obtain ⟨A, c, rfl⟩ := hl.form0
  obtain ⟨n, hn'⟩ : ∃ n, l.length = n := ⟨_, rfl⟩
  rw [hn'] at hn hl ⊢
  have HN := Lib.hid hn'
  have HL := Lib.hid hl
  have H := Lib.hid h
  clear hl hn' h
  go_enter Try.func25, Try.ntmps25
  go_wp2
  go_loopw [3, 8] (fun v i wr => ∃ (k : Nat) (o : List Int), k ≤ n ∧ i = .int .i64 k ∧ o = endsR (l.take k) ∧ wr.ownsRow w.heap.size 3 1 v o.length (o.map intV) ∧ Below w.heap.size w wr) (fun _ i _ => n - (intOf i).toNat)
  case atStart => exact ⟨0, [], Nat.zero_le _, rfl, rfl, World.ownsRow_nil _ _ _ _, Below.refl _ _⟩
  case round =>
    obtain ⟨k, o, hk, rfl, ho, hown, hb⟩ := hrel
    have hol : o.length ≤ 1000 := by
      have h1 := ends_length (l.take k)
      rw [← ho, List.length_take] at h1
      have := HN.out
      omega
    have HO := Lib.hid ho
    have HW := Lib.hid hown
    have HB := Lib.hid hb
    have hzw : w.heap.size ≤ wr.heap.size := hb.size
    clear ho hown hb
    by_cases hlt : k < n
    · obtain ⟨g, off, x0, x1, rfl, hx, c0, c1⟩ := HL.out.at HB.out hlt HN.out
      have HX := Lib.hid hx
      clear hx
      obtain ⟨b, hne⟩ : ∃ b, neR (x0, x1) = b := ⟨_, rfl⟩
      have HE := Lib.hid hne
      clear hne
      have hgw : g < wr.heap.size := by
        obtain ⟨g', off', c', hv, hg, hc⟩ := (HL.out.below HB.out).form (by have := HN.out; omega)
        simp only [Value.slice.injEq, Option.some.injEq, Addr.mk.injEq] at hv
        omega
      cases b
      · go_wp2_with (go_at_call 29; refine (hasDates_is x0 x1 false _ HE.out).mono ?_; rintro e w1 ⟨rfl, hb1⟩)
        go_roundw
        case rel =>
          have hb2 : Below wr.heap.size wr w1 := tr ((Below.refl _ _).alloc (Nat.le_refl _) _) hb1
          refine ⟨k + 1, o, by omega, by go_num, ?_, own_below HW.out hb2, tr HB.out hb2⟩
          rw [ends_take HX.out, ← HO.out, HE.out]
          simp
        case measure => simp [intOf]; omega
      · go_wp2_with (first
          | (go_at_call 29; refine (hasDates_is x0 x1 true _ HE.out).mono ?_; rintro e w1 ⟨rfl, hb1⟩; obtain ⟨hc1, hf1⟩ := bcell hb1; have hz1 := hb1.size; simp at hz1; have e0 : w1.cell? ⟨wr.heap.size, 0, none⟩ = some (.int .i64 x0) := (by rw [hc1 _ _ (by simp)]; simp [go_sem]); have e1 : w1.cell? ⟨wr.heap.size, 1, none⟩ = some (.int .i64 x1) := (by rw [hc1 _ _ (by simp)]; simp [go_sem]); have B1 := Lib.hid (show Below wr.heap.size wr w1 from tr ((Below.refl _ _).alloc (Nat.le_refl _) _) hb1); have O1 := Lib.hid (own_below HW.out B1.out); clear hc1 hf1 hb1)
          | (at_builtin; refine wpList_append_two rfl _ _ rfl w.heap.size _ o rfl O1.out x0 x1 _ rfl (by simp) (by omega) (by omega) ?_; intro v' w2 hown2 hg2))
        go_roundw
        case rel =>
          refine ⟨k + 1, o ++ [x0, x1], by omega, by go_num, ?_, hown2, grow (al (tr HB.out B1.out) _) hg2 (fun k hk => (O1.out.lt k hk).1)⟩
          rw [ends_take HX.out, ← HO.out, HE.out]
          simp
        case measure => simp [intOf]; omega
    · obtain rfl : k = n := by omega
      have e : o = endsR l := by rw [HO.out, List.take_of_length_le (by have := HN.out; omega)]
      have HF := Lib.hid e
      clear e
      rcases HW.out.2 with ⟨rfl, h0⟩ | ⟨g, cap, cur, rfl, -⟩
      · have h1 := List.eq_nil_of_length_eq_zero h0
        subst h1
        have hres : res = [] := by
          rw [← H.out, bnd_sorted l (s := []) List.Pairwise.nil (by rw [← HF.out])]; rfl
        subst hres
        go_wp2_with (first
          | (go_at_call 33; refine (Try.slices_Sort_int_none _ _ _).mono ?_; rintro e w1 ⟨rfl, rfl⟩)
          | (go_at_call 34; refine (Try.slices_Compact_int_empty _ _ _).mono ?_; rintro e w1 ⟨rfl, rfl⟩))
        go_ret
        exact ⟨_, rfl, Ints.nil _ _ _, HB.out⟩
      · obtain ⟨m, hm⟩ : ∃ m, o.length = m := ⟨_, rfl⟩
        rw [hm] at HW hol ⊢
        have HM := Lib.hid hm
        clear hm
        go_wp2_with (first
          | (go_at_call 33; refine (sort_ints g cap m o w.heap.size _ (by rw [HM.out]; exact HW.out) HM.out (by omega)).mono ?_; rintro e w1 ⟨rfl, s, hp, hs, hown1, hb1⟩; have hsl : s.length = m := (by rw [hp.length_eq]; exact HM.out); have HP := Lib.hid hp; have HS := Lib.hid hs; have HW1 := Lib.hid hown1; have HB1 := Lib.hid hb1; have HSL := Lib.hid hsl; clear hp hs hown1 hb1 hsl)
          | (go_at_call 34; refine (compact_ints g cap m s w.heap.size _ HW1.out HSL.out (by omega) res (by rw [← H.out]; exact (bnd_sorted l HS.out (by rw [← HF.out]; exact HP.out)).symm)).mono ?_; rintro e w2 ⟨v2, rfl, hr2, hb2⟩))
        go_ret
        exact ⟨_, rfl, hr2, (HB.out.trans HB1.out).trans hb2⟩
end Go.Proofs.Ytpdgdcdoaglimaa.rng
