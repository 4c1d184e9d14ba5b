/-
  What package money's totalWeight and negateAll answer: the walks.
-/
import Derived.Test.YtikcnekaefelcaaMineA
import Derived.Test.YtikcnekaefelcaaDuo
import Derived.Test.YtikcnekaefelcaaMoneyRefAlloc
namespace Go.Proofs.Ytikcnekaefelcaa.money
open Go Go.RowKit Go.Proofs.Ytikcnekaefelcaa.ints Go.Proofs.Ytikcnekaefelcaa.alloc
set_option linter.unusedVariables false

/-- the sum of the weights, or the first error -/
def totalW (c : Int) (ws : List Int) : Int × Int :=
  if beyond c 1000000000000000 then (0, 3) else if !(ws.all okW) then (0, 3) else if 64 < ws.length then (0, 4) else if tot ws = 0 then (0, 12) else (tot ws, 0)

theorem ret_two {t k a b : Int} {i j : IntKind} (h : (a, b) = (t, k)) : Ending.returned (.tuple #[.int i a, .int j b]) = Ending.returned (.tuple #[.int i t, .int j k]) := by cases h; rfl

set_option maxHeartbeats 2000000 in
theorem totalWeight_is (c t k : Int) (v : Value) (ws : List Int) (w : World) (hv : Ints w v ws) (h : totalW c ws = (t, k)) :
    Calls Try.prog 34 #[.int .i64 c, v] w fun e w' => e = .returned (.tuple #[.int .u64 t, .int .i64 k]) ∧ w = w' := by
  obtain ⟨A, cp, rfl⟩ := hv.form0
  have hm := hv.1
  have HV := Lib.hid hv
  unfold totalW at h
  cases hb : beyond c 1000000000000000
  · rw [hb, if_neg (by decide)] at h
    have HB := Lib.hid hb
    have H := Lib.hid h
    clear hv h hb
    go_enter Try.func34, Try.ntmps34
    go_wp2_with (go_at_call 25; refine (mBeyond_is _ _ false _ (by decide) (by decide) HB.out).mono ?_; rintro e w' ⟨rfl, rfl⟩)
    go_loop [15] (fun i => ∃ j : Nat, j ≤ ws.length ∧ i = .int .i64 j ∧ Hid ((ws.take j).all okW = true)) (fun i => ws.length - (intOf i).toNat)
    case atStart => exact ⟨0, Nat.zero_le _, rfl, (show (ws.take 0).all okW = true by simp)⟩
    case round =>
      obtain ⟨j, hj, rfl, HJ⟩ := hrel
      by_cases hlt : j < ws.length
      · obtain ⟨g, off, x, hva, hg, hc⟩ := HV.out.form (by omega)
        simp only [Value.slice.injEq] at hva
        obtain ⟨rfl, -, -⟩ := hva
        obtain ⟨z, hz⟩ : ∃ z, ws[j]? = some z := ⟨_, List.getElem?_eq_getElem hlt⟩
        have c1 := hc j z hz
        have HZ := Lib.hid hz
        clear hc hz
        by_cases z0 : z < 0
        · have hno : ws.all okW = false := all_no HZ.out (by rw [Bool.eq_false_iff]; intro h; have := okW_iff.1 h; omega)
          have hh := H.out
          rw [hno] at hh
          simp only [Bool.not_false, if_true] at hh
          have HH := Lib.hid hh
          clear hno hh
          go_wp2
          go_ret2
          exact ⟨ret_two HH.out, rfl⟩
        · by_cases z1 : 1000000000 < z
          · have hno : ws.all okW = false := all_no HZ.out (by rw [Bool.eq_false_iff]; intro h; have := okW_iff.1 h; omega)
            have hh := H.out
            rw [hno] at hh
            simp only [Bool.not_false, if_true] at hh
            have HH := Lib.hid hh
            clear hno hh
            go_wp2
            go_ret2
            exact ⟨ret_two HH.out, rfl⟩
          · go_wp2
            go_round
            case rel => exact ⟨j + 1, by omega, by go_num, (show _ from all_take HJ.out HZ.out (okW_iff.2 (by omega)))⟩
            case measure => simp [intOf]; omega
      · obtain rfl : j = ws.length := by omega
        have hall : ws.all okW = true := by have := HJ.out; rwa [List.take_length] at this
        have hh := H.out
        rw [hall] at hh
        simp only [Bool.not_true, Bool.false_eq_true, if_false] at hh
        have HA := Lib.hid hall
        by_cases hl : 64 < ws.length
        · rw [if_pos hl] at hh
          have HH := Lib.hid hh
          have hli : (64 : Int) < (ws.length : Int) := by omega
          clear hh hall
          go_wp2
          go_ret2
          exact ⟨ret_two HH.out, rfl⟩
        · rw [if_neg hl] at hh
          have HH := Lib.hid hh
          have hli : ¬ (64 : Int) < (ws.length : Int) := by omega
          clear hh hall
          go_wp2
          go_loop [8, 31] (fun s i => ∃ (j : Nat) (t : Int), j ≤ ws.length ∧ i = .int .i64 j ∧ s = .int .u64 t ∧ 0 ≤ t ∧ t ≤ 1000000000 * j ∧ Hid (tot (ws.take j) = t)) (fun _ i => ws.length - (intOf i).toNat)
          case atStart => exact ⟨0, 0, Nat.zero_le _, rfl, rfl, by decide, by decide, (show _ from rfl)⟩
          case round =>
            obtain ⟨j, t, hj, rfl, rfl, t0, t1, HT⟩ := hrel
            by_cases hlt : j < ws.length
            · obtain ⟨g, off, x, hva, hg, hc⟩ := HV.out.form (by omega)
              simp only [Value.slice.injEq] at hva
              obtain ⟨rfl, -, -⟩ := hva
              obtain ⟨z, hz⟩ : ∃ z, ws[j]? = some z := ⟨_, List.getElem?_eq_getElem hlt⟩
              have c1 := hc j z hz
              have hzk := okW_iff.1 (List.all_eq_true.1 HA.out z (List.mem_of_getElem? hz))
              obtain ⟨z0, z1⟩ := hzk
              have hst := tot_step hz
              rw [HT.out] at hst
              have HZ := Lib.hid hst
              have u1 : IntKind.u64.wrap z = z := by rw [IntKind.wrap_u64]; omega
              have u2 : IntKind.u64.wrap (t + z) = t + z := by rw [IntKind.wrap_u64]; omega
              clear hc hz hst
              go_wp2
              go_round
              case rel => exact ⟨j + 1, t + z, by omega, by go_num, rfl, by omega, by omega, (show _ from HZ.out)⟩
              case measure => simp [intOf]; omega
            · obtain rfl : j = ws.length := by omega
              have ht : tot ws = t := by have := HT.out; rwa [List.take_length] at this
              by_cases tz : t = 0
              · have hh := HH.out
                rw [ht, if_pos tz] at hh
                have HH2 := Lib.hid hh
                have tb : (t == 0) = true := by simpa using tz
                clear hh ht tz
                go_wp2
                go_ret2
                exact ⟨ret_two HH2.out, rfl⟩
              · have hh := HH.out
                rw [ht, if_neg tz] at hh
                have HH2 := Lib.hid hh
                have tb : (t == 0) = false := by simpa using tz
                clear hh ht
                go_wp2
                go_ret2
                exact ⟨ret_two HH2.out, rfl⟩
  · rw [hb, if_pos rfl] at h
    cases h
    have HB := Lib.hid hb
    clear hv hb
    go_enter Try.func34, Try.ntmps34
    go_wp2_with (go_at_call 25; refine (mBeyond_is _ _ true _ (by decide) (by decide) HB.out).mono ?_; rintro e w' ⟨rfl, rfl⟩)
    go_ret2
    exact ⟨rfl, rfl⟩

set_option maxHeartbeats 1000000 in
theorem negateAll_is (w0 w : World) (g cp n : Nat) (u2 : Value) (xs ys : List Int) (hd : Duo w0 w (.slice (some ⟨g, 0, none⟩) n cp) u2 xs ys) (hn : xs.length = n) (hl : n ≤ 64) (hb : ∀ (k : Nat) (z : Int), xs[k]? = some z → -1000000000000001 ≤ z ∧ z ≤ 1000000000000001) :
    Calls Try.prog 36 #[.slice (some ⟨g, 0, none⟩) n cp] w fun e w' => e = .returned (.tuple #[]) ∧ Duo w0 w' (.slice (some ⟨g, 0, none⟩) n cp) u2 (xs.map fun x => -x) ys := by
  have HD := Lib.hid hd
  have HN := Lib.hid hn
  have HB := Lib.hid hb
  clear hd hn hb
  go_enter Try.func36, Try.ntmps36
  go_wp2
  go_loopw [5] (fun i wr => ∃ j : Nat, j ≤ n ∧ i = .int .i64 j ∧ Hid (Duo w0 wr (.slice (some ⟨g, 0, none⟩) n cp) u2 (negTo xs j) ys)) (fun i _ => n - (intOf i).toNat)
  case atStart => exact ⟨0, Nat.zero_le _, rfl, (show Duo w0 w (.slice (some ⟨g, 0, none⟩) n cp) u2 (negTo xs 0) ys by rw [negTo_zero]; exact HD.out)⟩
  case round =>
    obtain ⟨j, hj, rfl, HJ⟩ := hrel
    by_cases hlt : j < n
    · obtain ⟨z, hz⟩ : ∃ z, xs[j]? = some z := ⟨_, List.getElem?_eq_getElem (by rw [HN.out]; exact hlt)⟩
      have hln : (negTo xs j).length = n := by rw [negTo_length]; exact HN.out
      have c1 := HJ.out.cell1 hln (negTo_at hz)
      have f1 := HJ.out.thaw1 hln j
      obtain ⟨z0, z1⟩ := HB.out j z hz
      have HST := Lib.hid (HJ.out.store1 hln j (-z) (negTo_step hz))
      clear hln hz
      go_wp2
      go_roundw
      case rel => exact ⟨j + 1, by omega, by go_num, (show _ from HST.out)⟩
      case measure => simp [intOf]; omega
    · obtain rfl : j = n := by omega
      go_wp2
      go_end0
      refine ⟨rfl, ?_⟩
      have := HJ.out
      rwa [show negTo xs j = xs.map fun x => -x by rw [← HN.out]; exact negTo_all xs] at this
end Go.Proofs.Ytikcnekaefelcaa.money
