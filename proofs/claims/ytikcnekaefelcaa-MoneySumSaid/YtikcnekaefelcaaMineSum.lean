/-
  What package money's Sum answers: the walk.
-/
import Derived.Test.YtikcnekaefelcaaMineA
import Derived.Test.YtikcnekaefelcaaInts
namespace Go.Proofs.Ytikcnekaefelcaa.money
open Go Go.RowKit Go.Proofs.Ytikcnekaefelcaa.ints
set_option linter.unusedVariables false

set_option maxHeartbeats 1000000 in
theorem mSum_is (v : Value) (l : List Int) (a c : Int) (w : World) (hv : Ints w v l) (h : sumR l = (a, c)) :
    Calls Try.prog 22 #[v] w fun e w' => e = .returned (.tuple #[.int .i64 a, .int .i64 c]) ∧ w = w' := by
  obtain ⟨A, cp, rfl⟩ := hv.form0
  have hm := hv.1
  have HV := Lib.hid hv
  unfold sumR at h
  have H := Lib.hid h
  clear hv h
  go_enter Try.func22, Try.ntmps22
  go_wp2
  go_loop [4, 9] (fun n i => ∃ (k : Nat) (t : Int), k ≤ l.length ∧ i = .int .i64 k ∧ n = .int .i64 t ∧ -1000000000000000 ≤ t ∧ t ≤ 1000000000000000 ∧ sumFrom t (l.drop k) = (a, c)) (fun _ i => l.length - (intOf i).toNat)
  case atStart => exact ⟨0, 0, Nat.zero_le _, rfl, rfl, by decide, by decide, by simpa using H.out⟩
  case round =>
    obtain ⟨k, t, hk, rfl, rfl, ht0, ht1, hs⟩ := hrel
    by_cases hlt : k < l.length
    · obtain ⟨g, off, x, hva, hg, hc⟩ := HV.out.form (by omega)
      simp only [Value.slice.injEq] at hva
      obtain ⟨rfl, -, -⟩ := hva
      obtain ⟨z, hz⟩ : ∃ z, l[k]? = some z := ⟨_, List.getElem?_eq_getElem hlt⟩
      have c1 := hc k z hz
      rw [drop_at hz, sumFrom] at hs
      clear hc hz
      cases hb1 : beyond z 1000000000000000
      · have zb := beyond_in hb1
        obtain ⟨zb0, zb1⟩ := zb
        rw [hb1, Bool.false_or] at hs
        cases hb2 : beyond (t + z) 1000000000000000
        · have tb := beyond_in hb2
          rw [hb2, if_neg (by decide)] at hs
          have HS := Lib.hid hs
          have HB1 := Lib.hid hb1
          have HB2 := Lib.hid hb2
          have HT := Lib.hid tb
          clear hs hb1 hb2 tb
          go_wp2_with (first
            | (go_at_call 25; (with_reducible refine (mBeyond_is z 1000000000000000 false _ (by decide) (by decide) HB1.out).mono ?_); rintro e w' ⟨rfl, rfl⟩)
            | (go_at_call 25; (with_reducible refine (mBeyond_is (t + z) 1000000000000000 false _ (by decide) (by decide) HB2.out).mono ?_); rintro e w' ⟨rfl, rfl⟩))
          go_round
          case rel => exact ⟨k + 1, t + z, by omega, by go_num, rfl, HT.out.1, HT.out.2, HS.out⟩
          case measure => (first | (simp [intOf]; done) | (simp [intOf]; omega))
        · rw [hb2, if_pos rfl] at hs
          cases hs
          have HB1 := Lib.hid hb1
          have HB2 := Lib.hid hb2
          clear hb1 hb2
          go_wp2_with (first
            | (go_at_call 25; (with_reducible refine (mBeyond_is z 1000000000000000 false _ (by decide) (by decide) HB1.out).mono ?_); rintro e w' ⟨rfl, rfl⟩)
            | (go_at_call 25; (with_reducible refine (mBeyond_is (t + z) 1000000000000000 true _ (by decide) (by decide) HB2.out).mono ?_); rintro e w' ⟨rfl, rfl⟩))
          go_ret2
          exact ⟨rfl, rfl⟩
      · rw [hb1, Bool.true_or, if_pos rfl] at hs
        cases hs
        have HB1 := Lib.hid hb1
        clear hb1
        go_wp2_with (first
          | (go_at_call 25; (with_reducible refine (mBeyond_is z 1000000000000000 true _ (by decide) (by decide) HB1.out).mono ?_); rintro e w' ⟨rfl, rfl⟩)
          | fail)
        go_ret2
        exact ⟨rfl, rfl⟩
    · obtain rfl : k = l.length := by omega
      rw [List.drop_length, sumFrom] at hs
      cases hs
      go_wp2
      go_ret2
      exact ⟨rfl, rfl⟩
end Go.Proofs.Ytikcnekaefelcaa.money
