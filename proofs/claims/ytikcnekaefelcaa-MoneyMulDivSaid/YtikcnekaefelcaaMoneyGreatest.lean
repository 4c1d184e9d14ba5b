/-
  The reference's search for the greatest rest (chapter 2): the walk.
-/
import Derived.Test.YtikcnekaefelcaaMoneyRef
import Derived.Test.YtikcnekaefelcaaInts
import Derived.Test.YtikcnekaefelcaaRank
namespace Go.Proofs.Ytikcnekaefelcaa.money
open Go Go.RowKit Go.Proofs.Ytikcnekaefelcaa.ints Go.Proofs.Ytikcnekaefelcaa.rank
set_option linter.unusedVariables false

/-- c is the place of the greatest of the first i numbers, the first of equal ones; -1 if none is above zero -/
def Best (zs : List Int) (i : Nat) (c : Int) : Prop :=
  (c = -1 ∧ ∀ j, j < i → zs.getD j 0 ≤ 0) ∨ ∃ k : Nat, k < i ∧ c = k ∧ 0 < zs.getD k 0 ∧ ∀ j, j < i → better zs j k = false

theorem better_no {r : List Int} {j i : Nat} : better r j i = false ↔ r.getD j 0 ≤ r.getD i 0 ∧ (r.getD j 0 = r.getD i 0 → i ≤ j) := by
  rw [Bool.eq_false_iff, Ne, better_iff]; omega
theorem Best.start (zs : List Int) : Best zs 0 (-1) := .inl ⟨rfl, fun j h => by omega⟩
theorem Best.low {zs : List Int} {i : Nat} (h : Best zs i (-1)) (hz : zs.getD i 0 ≤ 0) : Best zs (i + 1) (-1) := by
  rcases h with ⟨_, h⟩ | ⟨k, _, hk, _⟩
  · refine .inl ⟨rfl, fun j hj => ?_⟩
    rcases Nat.lt_or_ge j i with g | g
    · exact h j g
    · obtain rfl : j = i := by omega
      exact hz
  · omega
theorem Best.first {zs : List Int} {i : Nat} (h : Best zs i (-1)) (hz : 0 < zs.getD i 0) : Best zs (i + 1) i := by
  rcases h with ⟨_, h⟩ | ⟨k, _, hk, _⟩
  · refine .inr ⟨i, by omega, rfl, hz, fun j hj => ?_⟩
    rw [better_no]
    rcases Nat.lt_or_ge j i with g | g
    · have := h j g; omega
    · obtain rfl : j = i := by omega
      omega
  · omega
theorem Best.keep {zs : List Int} {i k : Nat} (h : Best zs i k) (hz : zs.getD i 0 ≤ zs.getD k 0) : Best zs (i + 1) k := by
  rcases h with ⟨h, _⟩ | ⟨k', hk, e, h0, h⟩
  · omega
  · obtain rfl : k = k' := by omega
    refine .inr ⟨k, by omega, rfl, h0, fun j hj => ?_⟩
    rcases Nat.lt_or_ge j i with g | g
    · exact h j g
    · obtain rfl : j = i := by omega
      rw [better_no]; omega
theorem Best.more {zs : List Int} {i k : Nat} (h : Best zs i k) (hz : zs.getD k 0 < zs.getD i 0) : Best zs (i + 1) i := by
  rcases h with ⟨h, _⟩ | ⟨k', hk, e, h0, h⟩
  · omega
  · obtain rfl : k = k' := by omega
    refine .inr ⟨i, by omega, rfl, by omega, fun j hj => ?_⟩
    rw [better_no]
    rcases Nat.lt_or_ge j i with g | g
    · have := better_no.1 (h j g); omega
    · obtain rfl : j = i := by omega
      omega

theorem getD_of {zs : List Int} {i : Nat} {z : Int} (h : zs[i]? = some z) : zs.getD i 0 = z := by
  rw [List.getD, h]; rfl

set_option maxHeartbeats 1000000 in
theorem rgreatest_is (v : Value) (zs : List Int) (w : World) (hv : Ints w v zs) :
    Calls Try.prog 38 #[v] w fun e w' => (∃ c, e = .returned (.int .i64 c) ∧ Best zs zs.length c) ∧ ∃ n, w' = w.drewN n := by
  obtain ⟨A, cp, rfl⟩ := hv.form0
  have hm := hv.1
  have HV := Lib.hid hv
  clear hv
  go_enter Try.func38, Try.ntmps38
  go_wp2
  go_loopw [3, 4] (fun b v wr => ∃ (i k : Nat) (c : Int), i ≤ zs.length ∧ wr = w.drewN k ∧ v = .int .i64 i ∧ b = .int .i64 c ∧ Best zs i c) (fun _ v _ => zs.length - (intOf v).toNat)
  case atStart => exact ⟨0, 0, -1, Nat.zero_le _, rfl, rfl, rfl, Best.start zs⟩
  case round =>
    obtain ⟨i, n, c, hi, rfl, rfl, rfl, hb⟩ := hrel
    by_cases hlt : i < zs.length
    · obtain ⟨g, off, x, hva, hg, hcs⟩ := HV.out.form (by omega)
      simp only [Value.slice.injEq] at hva
      obtain ⟨rfl, -, -⟩ := hva
      obtain ⟨z, hz⟩ : ∃ z, zs[i]? = some z := ⟨_, List.getElem?_eq_getElem hlt⟩
      have c1 := hcs i z hz
      have hzd := getD_of hz
      by_cases hc : c = -1
      · subst hc
        by_cases hp : 0 < z
        · have hp1 : decide (0 < z) = true := by simpa using hp
          have HB := Lib.hid (hb.first (by rw [hzd]; exact hp))
          clear hb hcs hz hzd
          go_wp2
          go_quiet (fail)
          go_wp2
          go_roundw
          case rel => exact ⟨i + 1, _, i, by omega, rfl, by go_num, rfl, HB.out⟩
          case measure => simp [intOf]; omega
        · have hp1 : decide (0 < z) = false := by simpa using hp
          have HB := Lib.hid (hb.low (by rw [hzd]; omega))
          clear hb hcs hz hzd
          go_wp2
          go_quiet (fail)
          go_wp2
          go_roundw
          case rel => exact ⟨i + 1, _, -1, by omega, rfl, by go_num, rfl, HB.out⟩
          case measure => simp [intOf]; omega
      · obtain ⟨k, hk, rfl⟩ : ∃ k : Nat, k < i ∧ c = k := by
          rcases hb with ⟨h, _⟩ | ⟨k, hk, e, _⟩
          · exact absurd h hc
          · exact ⟨k, hk, e⟩
        obtain ⟨y, hy⟩ : ∃ y, zs[k]? = some y := ⟨_, List.getElem?_eq_getElem (by omega)⟩
        have c2 := hcs k y hy
        have hyd := getD_of hy
        have hy0 : 0 < y := by
          rcases hb with ⟨h, _⟩ | ⟨k', hk', e, h, _⟩
          · exact absurd h hc
          · obtain rfl : k = k' := by omega
            rw [hyd] at h; exact h
        have hkn : decide ((k : Int) < 0) = false := by simp
        by_cases hp : 0 < z
        · have hp1 : decide (0 < z) = true := by simpa using hp
          by_cases hq : y < z
          · have hq1 : decide (y < z) = true := by simpa using hq
            have HB := Lib.hid (hb.more (by rw [hzd, hyd]; exact hq))
            clear hb hcs hz hzd hy hyd
            go_wp2
            go_quiet (fail)
            go_wp2
            go_roundw
            case rel => exact ⟨i + 1, _, i, by omega, rfl, by go_num, rfl, HB.out⟩
            case measure => simp [intOf]; omega
          · have hq1 : decide (y < z) = false := by simpa using hq
            have HB := Lib.hid (hb.keep (by rw [hzd, hyd]; omega))
            clear hb hcs hz hzd hy hyd
            go_wp2
            go_quiet (fail)
            go_wp2
            go_roundw
            case rel => exact ⟨i + 1, _, k, by omega, rfl, by go_num, rfl, HB.out⟩
            case measure => simp [intOf]; omega
        · have hp1 : decide (0 < z) = false := by simpa using hp
          have HB := Lib.hid (hb.keep (by rw [hzd, hyd]; omega))
          clear hb hcs hz hzd hy hyd
          go_wp2
          go_quiet (fail)
          go_wp2
          go_roundw
          case rel => exact ⟨i + 1, _, k, by omega, rfl, by go_num, rfl, HB.out⟩
          case measure => simp [intOf]; omega
    · obtain rfl : i = zs.length := by omega
      go_wp2
      go_ret
      exact ⟨⟨c, rfl, hb⟩, _, rfl⟩
end Go.Proofs.Ytikcnekaefelcaa.money
