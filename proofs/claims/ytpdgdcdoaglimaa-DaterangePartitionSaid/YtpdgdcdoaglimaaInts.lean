/-
  What the comparison of two slices of integers answers.
-/
import Derived.Test.YtpdgdcdoaglimaaIntv
namespace Go.Proofs.Ytpdgdcdoaglimaa.ints
open Go Go.RowKit
set_option linter.unusedVariables false

set_option maxHeartbeats 800000 in
theorem Ints_is (va vb : Value) (la lb : List Int) (b : Bool) (w : World) (ha : Ints w va la) (hb : Ints w vb lb) (h : decide (la = lb) = b) :
    Calls Try.prog 24 #[va, vb] w fun e w' => e = .returned (.bool b) ∧ Below w.heap.size w w' := by
  obtain ⟨A, ca, hva⟩ := ha.form0
  obtain ⟨B, cb, hvb⟩ := hb.form0
  have hm := ha.1
  have hm' := hb.1
  by_cases hl : la.length = lb.length
  · have HL := Lib.hid hl
    have HA := Lib.hid ha
    have HB := Lib.hid hb
    have H := Lib.hid h
    obtain ⟨n, hn⟩ : ∃ n, la.length = n := ⟨_, rfl⟩
    have hn2 : lb.length = n := by omega
    rw [hn] at hva hm
    rw [hn2] at hvb hm'
    subst hva hvb
    have HN := Lib.hid hn
    have HN2 := Lib.hid hn2
    clear hn hn2 hl ha hb h
    go_enter Try.func24, Try.ntmps24
    go_wp2
    go_loopw [5] (fun v wr => ∃ i k : Nat, i ≤ n ∧ wr = w.drewN k ∧ v = .int .i64 i ∧ la.take i = lb.take i) (fun v _ => n - (intOf v).toNat)
    case atStart => exact ⟨0, 0, Nat.zero_le _, rfl, rfl, by simp⟩
    case round =>
      obtain ⟨i, k, hi, rfl, rfl, ht⟩ := hrel
      have HT := Lib.hid ht
      clear ht
      by_cases hlt : i < n
      · obtain ⟨ga, oa, xa, hva, hga, hca⟩ := HA.out.form (by have := HN.out; omega)
        obtain ⟨gb, ob, xb, hvb, hgb, hcb⟩ := HB.out.form (by have := HN2.out; omega)
        simp only [Value.slice.injEq] at hva hvb
        obtain ⟨rfl, -, -⟩ := hva
        obtain ⟨rfl, -, -⟩ := hvb
        obtain ⟨x, hx⟩ : ∃ x, la[i]? = some x := ⟨_, List.getElem?_eq_getElem (by have := HN.out; omega)⟩
        obtain ⟨y, hy⟩ : ∃ y, lb[i]? = some y := ⟨_, List.getElem?_eq_getElem (by have := HN2.out; omega)⟩
        have c1 := hca i x hx
        have c2 := hcb i y hy
        have HX := Lib.hid hx
        have HY := Lib.hid hy
        clear hca hcb hx hy
        cases hxy : (x == y)
        · have hne : (x != y) = true := by unfold bne; rw [hxy]; rfl
          go_wp2_with fail
          go_quiet (fail)
          go_wp2
          go_ret
          refine ⟨ret_bool ?_, below_drewN (below_drewN (Below.refl _ _) _) _⟩
          rw [← H.out]
          symm
          rw [decide_eq_false_iff_not]
          intro e
          have h1 := HX.out
          rw [e, HY.out] at h1
          cases h1
          simp at hxy
        · have hne : (x != y) = false := by unfold bne; rw [hxy]; rfl
          go_wp2_with fail
          go_quiet (fail)
          go_wp2
          go_roundw
          case rel =>
            refine ⟨i + 1, _, by omega, rfl, by go_num, ?_⟩
            rw [List.take_add_one, List.take_add_one, HX.out, HY.out, HT.out, eq_of_beq hxy]
          case measure => simp [intOf]; omega
      · obtain rfl : i = n := by omega
        go_wp2
        go_ret
        refine ⟨ret_bool ?_, below_drewN (Below.refl _ _) _⟩
        rw [← H.out]
        symm
        rw [decide_eq_true_eq]
        have h1 := HT.out
        rw [List.take_of_length_le (by have := HN.out; omega), List.take_of_length_le (by have := HN2.out; omega)] at h1
        exact h1
  · have hne : b = false := by
      rw [← h, decide_eq_false_iff_not]; intro e; rw [e] at hl; exact hl rfl
    have H := Lib.hid hne
    have h1 : ((la.length : Int) != (lb.length : Int)) = true := by simp; omega
    subst hva hvb
    clear h hl hne ha hb
    go_enter Try.func24, Try.ntmps24
    go_wp2
    go_ret
    exact ⟨ret_bool H.out.symm, Below.refl _ _⟩
end Go.Proofs.Ytpdgdcdoaglimaa.ints
