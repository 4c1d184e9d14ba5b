/-
  What the reference's Digits of chapter 4 answers: the walk.
-/
import Derived.Test.YtmmohbmgodiilaaDoorQWalkBase
import Derived.LoopTactic
import Derived.Test.YtmmohbmgodiilaaDoorPa
import Derived.Test.YtmmohbmgodiilaaDoorQTextBase
namespace Go.Proofs.YtmmohbmgodiilaaDoor.cal
open Go Go.RowKit Go.Proofs.YtmmohbmgodiilaaDoor.num Go.Proofs.YtmmohbmgodiilaaDoor.txt Go.Proofs.YtmmohbmgodiilaaDoor.money
set_option linter.unusedVariables false

theorem val_next (s : ByteArray) (k : Nat) (h : k < s.size) : val (s.data.toList.take (k + 1)) = 10 * val (s.data.toList.take k) + ((s[k]'h).toNat - 48) := by
  rw [take_snoc s k h]; unfold val; rw [valF_app]
theorem val_small : ∀ (k : Nat) (l : List UInt8), l.length ≤ k → digs l = true → val l < 10 ^ k
  | 0, l, h, _ => by
    obtain rfl : l = [] := List.eq_nil_of_length_eq_zero (by omega)
    decide
  | k + 1, l, h, hd => by
    rcases List.eq_nil_or_concat l with rfl | ⟨t, c, rfl⟩
    · exact Nat.pow_pos (by omega)
    · rw [List.concat_eq_append] at h hd ⊢
      rw [digs_snoc, Bool.and_eq_true] at hd
      have hc := (dig_iff c).1 hd.2
      have := val_small k t (by simp at h; omega) hd.1
      unfold val at this ⊢
      rw [valF_app, Nat.pow_succ]; omega

set_option maxHeartbeats 1000000 in
theorem rDigits_is (s : ByteArray) (c : Int) (w : World) (h : digR s.data.toList = c) (hs : s.size ≤ 10) : Calls Tryd.prog 37 #[.string s] w fun e w' => e = .returned (.int .i64 c) ∧ w = w' := by
  have H := Lib.hid h
  clear h
  go_enter Tryd.func37, Tryd.ntmps37
  go_wp2
  go_loop [3, 4] (fun vn vi => ∃ k m : Nat, k ≤ s.size ∧ vi = .int .i64 k ∧ vn = .int .i64 m ∧ m < 10000000000 ∧ Hid (digs (s.data.toList.take k) = true ∧ val (s.data.toList.take k) = m)) (fun _ vi => s.size - (intOf vi).toNat)
  case atStart => exact ⟨0, 0, Nat.zero_le _, rfl, rfl, by decide, (show _ from ⟨by simp [digs], by simp [val, valF]⟩)⟩
  case round =>
    obtain ⟨k, m, hk, rfl, rfl, hm, HD⟩ := hrel
    by_cases hlt : k < s.size
    · by_cases h1 : ((s[k]'hlt).toNat : Int) < 48
      · have HS := Lib.hid (digs_stop s k hlt (by omega))
        go_wp2
        go_ret
        exact ⟨ret_int (by rw [← H.out]; unfold digR; rw [HS.out]; rfl), rfl⟩
      · by_cases h2 : 57 < ((s[k]'hlt).toNat : Int)
        · have HS := Lib.hid (digs_stop s k hlt (by omega))
          go_wp2
          go_ret
          exact ⟨ret_int (by rw [← H.out]; unfold digR; rw [HS.out]; rfl), rfl⟩
        · have hd : digs (s.data.toList.take (k + 1)) = true := by rw [take_snoc s k hlt, digs_snoc, HD.out.1, (dig_iff _).2 ⟨by omega, by omega⟩]; rfl
          have hv := val_next s k hlt
          rw [HD.out.2] at hv
          have hsm := val_small 10 (s.data.toList.take (k + 1)) (by rw [List.length_take]; omega) hd
          rw [hv] at hsm
          have hsm2 : 10 * m + ((s[k]'hlt).toNat - 48) < 10000000000 := hsm
          have HS := Lib.hid (And.intro hd hv)
          have u1 : IntKind.u8.wrap (((s[k]'hlt).toNat : Int) - 48) = ((s[k]'hlt).toNat : Int) - 48 := u8_in (by omega) (by omega)
          clear hd hv hsm
          go_wp2
          go_round
          case rel => exact ⟨k + 1, 10 * m + ((s[k]'hlt).toNat - 48), by omega, by go_num, by congr 1; omega, hsm2, HS⟩
          case measure => simp [intOf]; omega
    · obtain rfl : k = s.size := by omega
      have h3 := HD.out
      rw [take_all s s.size (Nat.le_refl _)] at h3
      have HS := Lib.hid h3
      clear h3
      go_wp2
      go_ret
      exact ⟨ret_int (by rw [← H.out]; unfold digR; rw [HS.out.1, if_pos rfl, HS.out.2]), rfl⟩

theorem okText_len {l : List UInt8} (h : l.length ≠ 10) : okText l = false := by unfold okText; rw [decide_eq_false h]; rfl
theorem at_byte {s : ByteArray} {i : Nat} (h : i < s.size) : s.data.toList[i]? = some (s[i]'h) := by
  have : i < s.data.toList.length := by rw [← Lib.size_eq]; exact h
  rw [List.getElem?_eq_getElem this]; rfl
end Go.Proofs.YtmmohbmgodiilaaDoor.cal
