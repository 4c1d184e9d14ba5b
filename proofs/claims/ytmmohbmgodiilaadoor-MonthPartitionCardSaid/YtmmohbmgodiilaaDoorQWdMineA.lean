/-
  The landed small functions of package workday: isDate, isWeekend. The walks.
-/
import Derived.Test.YtmmohbmgodiilaaDoorQWdKept
import Derived.Test.YtmmohbmgodiilaaDoorQCalWkd
namespace Go.Proofs.YtmmohbmgodiilaaDoor.wd
open Go Go.RowKit Go.Proofs.YtmmohbmgodiilaaDoor.money Go.Proofs.YtmmohbmgodiilaaDoor.ints Go.Proofs.YtmmohbmgodiilaaDoor.rng
set_option linter.unusedVariables false
set_option linter.unusedSimpArgs false

theorem mDay_is (d : Int) (b : Bool) (w : World) (h : dayR d = b) : Calls Tryd.prog 50 #[.int .i64 d] w fun e w' => e = .returned (.bool b) ∧ w = w' := by
  have H := Lib.hid h
  clear h
  go_enter Tryd.func50, Tryd.ntmps50
  go_wp2
  all_goals go_ret
  all_goals refine ⟨ref_bool ?_, rfl⟩
  all_goals rw [← H.out]; unfold dayR
  all_goals (first | (simp; done) | (simp_all; done) | (simp_all; omega))

/-- the weekday of a date is not a working one -/
def weR (wk d : Int) : Bool := decide (bitR wk (d % 7).toNat % 2 ≠ 0)
theorem bitR_pow : ∀ (k : Nat) (wk : Int), bitR wk k = wk / 2 ^ k
  | 0, wk => by simp [bitR]
  | k + 1, wk => by
    rw [bitR, bitR_pow k, Int.pow_succ, Int.mul_comm, Int.ediv_ediv_of_nonneg (by decide)]
theorem and_one {x : Int} (h0 : 0 ≤ x) (h1 : x ≤ 126) : bits BinOp.and IntKind.i64 x 1 = x % 2 := by
  have h : ∀ n : Fin 127, bits BinOp.and IntKind.i64 (n.val : Int) 1 = (n.val : Int) % 2 := by decide +kernel
  have := h ⟨x.toNat, by omega⟩
  simp only at this
  rw [show ((x.toNat : Nat) : Int) = x by omega] at this
  exact this
theorem weekend_is (wk : Int) (hv : Value) (d : Int) (c : Bool) (w : World) (w0 : 0 ≤ wk) (w1 : wk ≤ 126) (hd : dayR d = true) (h : weR wk d = c) : Calls Tryd.prog 58 #[.agg #[.int .i64 wk, hv], .int .i64 d] w (GivesB w c) := by
  obtain ⟨d0, d1⟩ := (day_iff d).1 hd
  have H := Lib.hid h
  obtain ⟨k, hk⟩ : ∃ k : Nat, (d % 7).toNat = k := ⟨_, rfl⟩
  have k6 : k ≤ 6 := by omega
  have HW := Lib.hid (show cal.wkR d = (k : Int) by unfold cal.wkR; rw [(cal.okD_iff d).2 ⟨d0, d1⟩, if_pos rfl]; omega)
  have HK := Lib.hid hk
  clear h hk
  go_enter Tryd.func58, Tryd.ntmps58
  go_wp2_with fail
  go_quiet (first | (go_at_call 62; with_reducible exact quiet_more (cal.mWeekday_is d _ _ HW.out)) | (go_at_call 62; with_reducible exact quiet_eq (cal.mWeekday_is d _ _ HW.out)))
  go_wp2
  go_ret
  refine ⟨ref_bool ?_, below_drewN (al (Below.refl _ _) _) _⟩
  rw [← H.out]
  unfold weR
  rw [HK.out, bitR_pow]
  obtain ⟨x0, x1⟩ := bitR_le k wk w0
  rw [bitR_pow] at x0 x1
  rw [and_one x0 (by omega)]
  by_cases g : wk / 2 ^ k % 2 = 0
  · rw [g]; rfl
  · rw [decide_eq_true g]; simpa using g
end Go.Proofs.YtmmohbmgodiilaaDoor.wd
