/-
  What the reference of chapter 6 answers: a working day. The walk.
-/
import Derived.Test.YtmmohbmgodiilaaDoorQWdRef
namespace Go.Proofs.YtmmohbmgodiilaaDoor.wd
open Go Go.RowKit Go.Proofs.YtmmohbmgodiilaaDoor.money Go.Proofs.YtmmohbmgodiilaaDoor.ints Go.Proofs.YtmmohbmgodiilaaDoor.rng
set_option linter.unusedVariables false
set_option linter.unusedSimpArgs false

theorem bitR_le : ∀ (k : Nat) (wk : Int), 0 ≤ wk → 0 ≤ bitR wk k ∧ bitR wk k ≤ wk
  | 0, wk, h => ⟨h, Int.le_refl _⟩
  | k + 1, wk, h => by
    have := bitR_le k (wk / 2) (by omega)
    unfold bitR; omega
theorem contains_drop {hs : List Int} {k : Nat} {x d : Int} (h : hs[k]? = some x) : (hs.drop k).contains d = (decide (x = d) || (hs.drop (k + 1)).contains d) := by
  rw [drop_at h, List.contains_cons]
  congr 1
  by_cases e : x = d
  · subst e; simp
  · rw [decide_eq_false e]
    simp; exact fun h => e h.symm

set_option maxHeartbeats 2000000 in
theorem rWd_is (wk : Int) (hv : Value) (hs : List Int) (d : Int) (c : Bool) (w : World) (hi : Ints w hv hs) (h : wdR wk hs d = c) :
    Calls Tryd.prog 35 #[.agg #[.int .i64 wk, hv], .int .i64 d] w (GivesB w c) := by
  obtain ⟨A, cp, rfl⟩ := hi.form0
  obtain ⟨n, hn⟩ : ∃ n, hs.length = n := ⟨_, rfl⟩
  rw [hn] at hi ⊢
  have HI := Lib.hid hi
  have HN := Lib.hid hn
  unfold wdR at h
  obtain ⟨a, ha⟩ : ∃ a, calR wk hs = a := ⟨_, rfl⟩
  obtain ⟨b, hb⟩ : ∃ b, dayR d = b := ⟨_, rfl⟩
  have HA := Lib.hid ha
  have HD := Lib.hid hb
  rw [ha, hb] at h
  cases a
  · have H := Lib.hid (show false = c by rw [← h]; rfl)
    clear h hi hn ha hb
    go_enter Tryd.func35, Tryd.ntmps35
    go_wp2_with (go_at_call 34; refine (rCal_is wk _ hs false _ ?_ HA.out).mono ?_; (exact HI.out.below ((Below.refl _ _).alloc (Nat.le_refl _) _)); rintro e w1 ⟨rfl, hb1⟩)
    go_ret
    exact ⟨ref_bool H.out, tr ((Below.refl _ _).alloc (Nat.le_refl _) _) hb1⟩
  · cases b
    · have H := Lib.hid (show false = c by rw [← h]; rfl)
      clear h hi hn ha hb
      go_enter Tryd.func35, Tryd.ntmps35
      go_wp2_with (first
        | (go_at_call 34; refine (rCal_is wk _ hs true _ ?_ HA.out).mono ?_; (exact HI.out.below ((Below.refl _ _).alloc (Nat.le_refl _) _)); rintro e w1 ⟨rfl, hb1⟩)
        | (go_at_call 52; refine (rDay_is d false _ HD.out).mono ?_; rintro e w2 ⟨rfl, rfl⟩)
        | fail)
      go_ret
      exact ⟨ref_bool H.out, tr ((Below.refl _ _).alloc (Nat.le_refl _) _) hb1⟩
    · have hd := (day_iff d).1 hb
      have hwk : 0 ≤ wk ∧ wk ≤ 126 := by
        unfold calR at ha
        simp only [Bool.and_eq_true, decide_eq_true_eq] at ha
        exact ha.1.1
      have n64 : n ≤ 64 := by
        unfold calR at ha
        simp only [Bool.and_eq_true, decide_eq_true_eq] at ha
        have := ha.1.2; omega
      rw [Bool.true_and, Bool.true_and] at h
      have H := Lib.hid h
      obtain ⟨r, hr⟩ : ∃ r : Nat, (d % 7).toNat = r := ⟨_, rfl⟩
      have r7 : d.tmod 7 = r := by rw [tmod_of hd.1]; omega
      have r6 : r ≤ 6 := by omega
      have HR := Lib.hid hr
      clear h hn ha hb hi
      have d0 := hd.1
      have d1 := hd.2
      have wk0 := hwk.1
      have wk1 := hwk.2
      clear hd hwk hr
      go_enter Tryd.func35, Tryd.ntmps35
      go_wp2_with (first
        | (go_at_call 34; refine (rCal_is wk _ hs true _ ?_ HA.out).mono ?_; (exact HI.out.below ((Below.refl _ _).alloc (Nat.le_refl _) _)); rintro e w1 ⟨rfl, hb1⟩; have k0 := (bcell hb1).1 w.heap.size 0 (by simp); have k1 := (bcell hb1).1 w.heap.size 1 (by simp); have B1 := Lib.hid (tr ((Below.refl _ _).alloc (Nat.le_refl _) _) hb1))
        | (go_at_call 52; refine (rDay_is d true _ HD.out).mono ?_; rintro e w2 ⟨rfl, rfl⟩)
        | fail)
      replace k0 : w1.cell? ⟨w.heap.size, 0, none⟩ = some (.int .i64 wk) := by rw [k0]; simp [go_sem]
      replace k1 : w1.cell? ⟨w.heap.size, 1, none⟩ = some (.slice A n cp) := by rw [k1]; simp [go_sem]
      have lz := World.block_lt_of_cell? _ _ k0
      simp only at lz
      obtain ⟨e, he⟩ : ∃ e, hs.contains d = e := ⟨_, rfl⟩
      have HE := Lib.hid he
      have HC : Hid ((!e && decide (bitR wk r % 2 = 0)) = c) := by rw [← he, ← HR.out]; exact H
      clear H he
      go_loop [5] (fun i => ∃ k : Nat, k ≤ n ∧ i = .int .i64 k ∧ (hs.drop k).contains d = e) (fun i => n - (intOf i).toNat)
      case atStart => exact ⟨0, Nat.zero_le _, rfl, by simpa using HE.out⟩
      case round =>
        obtain ⟨k, hk, rfl, hu⟩ := hrel
        by_cases hlt : k < n
        · obtain ⟨g, off, cp', hv', hg, hc⟩ := (HI.out.below B1.out).form (by have := HN.out; omega)
          simp only [Value.slice.injEq] at hv'
          obtain ⟨rfl, -, -⟩ := hv'
          obtain ⟨x, hx⟩ : ∃ x, hs[k]? = some x := ⟨_, List.getElem?_eq_getElem (by have := HN.out; omega)⟩
          have c0 := hc k x hx
          rw [contains_drop hx] at hu
          clear hc hx
          by_cases hxd : x = d
          · subst hxd
            have HF := Lib.hid (show false = c by rw [← HC.out, ← hu, decide_eq_true rfl]; rfl)
            clear hu
            go_wp2
            go_ret
            exact ⟨ref_bool HF.out, B1.out⟩
          · rw [decide_eq_false hxd, Bool.false_or] at hu
            have HU := Lib.hid hu
            clear hu
            go_wp2
            go_round
            case rel => exact ⟨k + 1, by omega, by go_num, HU.out⟩
            case measure => simp [intOf]; omega
        · obtain rfl : k = n := by omega
          rw [List.drop_of_length_le (by have := HN.out; omega)] at hu
          obtain rfl : e = false := by rw [← hu]; rfl
          obtain ⟨z, hz⟩ : ∃ z, bitR wk r = z := ⟨_, rfl⟩
          have hzb := bitR_le r wk wk0
          rw [hz] at hzb
          have HF : Hid (decide (z % 2 = 0) = c) := by have := HC.out; rw [hz] at this; exact this
          have HZ := Lib.hid hz
          have HZB := Lib.hid hzb
          clear hu HC hz hzb HE
          go_wp2
          go_loop [6, 7] (fun b i => ∃ (j : Nat) (x : Int), j ≤ r ∧ i = .int .i64 j ∧ b = .int .i64 x ∧ 0 ≤ x ∧ x ≤ 126 ∧ bitR x (r - j) = z) (fun _ i => r - (intOf i).toNat)
          case atStart => exact ⟨0, wk, Nat.zero_le _, rfl, rfl, wk0, wk1, by simpa using HZ.out⟩
          case round =>
            obtain ⟨j, x, hj, rfl, rfl, x0, x1, hb⟩ := hrel
            by_cases hjr : j < r
            · rw [show r - j = (r - (j + 1)) + 1 by omega, bitR] at hb
              have HBB := Lib.hid hb
              obtain ⟨y, hy⟩ : ∃ y, x / 2 = y := ⟨_, rfl⟩
              have y1 : x.tdiv 2 = y := by rw [tdiv_of x0]; exact hy
              have y2 : 0 ≤ y := by omega
              have y3 : y ≤ 126 := by omega
              have HY := Lib.hid (show bitR y (r - (j + 1)) = z by rw [← hy]; exact hb)
              have jr : (j : Int) < r := by omega
              clear hb hy
              go_wp2
              go_round
              case rel => exact ⟨j + 1, y, by omega, by go_num, rfl, y2, y3, HY.out⟩
              case measure => simp [intOf]; omega
            · obtain rfl : j = r := by omega
              rw [Nat.sub_self, bitR] at hb
              subst hb
              obtain ⟨y, hy⟩ : ∃ y, x % 2 = y := ⟨_, rfl⟩
              have y1 : x.tmod 2 = y := by rw [tmod_of x0]; exact hy
              have HY := Lib.hid (show (y == 0) = c by rw [← HF.out, hy]; by_cases g : y = 0 <;> simp [g])
              clear hy
              go_wp2
              go_ret
              exact ⟨ref_bool HY.out, B1.out⟩
end Go.Proofs.YtmmohbmgodiilaaDoor.wd
