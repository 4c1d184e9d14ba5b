/-
  What package date's formatDigits, parseDigits, Format and Parse answer.
-/
import Derived.Test.YtmmohbmgodiilaaDoorQCalMineC
import Derived.Test.YtmmohbmgodiilaaDoorQCalDigits
import Derived.Test.YtmmohbmgodiilaaDoorQRefFmt
namespace Go.Proofs.YtmmohbmgodiilaaDoor.cal
open Go Go.RowKit Go.Proofs.YtmmohbmgodiilaaDoor.money
open Go.Proofs.YtmmohbmgodiilaaDoor.num (clamp fixL padTo parseF digs val valF sgn fixL_eq fixBody cutDot cutDot_at)
open Go.Proofs.YtmmohbmgodiilaaDoor.txt (str_mk str_size ext_list ret_str)
set_option linter.unusedVariables false

theorem fix_small {k n : Nat} (hk : 1 ≤ k) (hl : (Lib.decDigits n).length ≤ k) : fixL k (n : Int) = 48 :: 46 :: padTo k (Lib.decDigits n) := by
  have e : padTo (k + 1) (Lib.decDigits n) = 48 :: padTo k (Lib.decDigits n) := by
    unfold padTo
    rw [show k + 1 - (Lib.decDigits n).length = (k - (Lib.decDigits n).length) + 1 by omega, List.replicate_succ, List.cons_append]
  have hlen : (padTo k (Lib.decDigits n)).length = k := by
    unfold padTo; rw [List.length_append, List.length_replicate]; omega
  rw [fixL_eq (by omega), if_neg (by omega)]
  unfold fixBody
  rw [Int.natAbs_natCast, e, List.length_cons, hlen, show k + 1 - k = 1 by omega]
  rfl
theorem valF_lt : ∀ (l : List UInt8) (m : Nat), digs l = true → valF m l + 1 ≤ (m + 1) * 10 ^ l.length
  | [], m, h => by simp [valF]
  | c :: l, m, h => by
    have h2 : digs l = true ∧ c.toNat ≤ 57 := by
      unfold digs at h ⊢
      rw [List.all_cons, Bool.and_eq_true] at h
      exact ⟨h.2, ((Go.Proofs.YtmmohbmgodiilaaDoor.num.dig_iff c).1 h.1).2⟩
    have ih := valF_lt l (10 * m + (c.toNat - 48)) h2.1
    have e : valF m (c :: l) = valF (10 * m + (c.toNat - 48)) l := rfl
    rw [e, List.length_cons, Nat.pow_succ]
    have : (10 * m + (c.toNat - 48) + 1) * 10 ^ l.length ≤ (m + 1) * 10 * 10 ^ l.length := Nat.mul_le_mul_right _ (by have := h2.2; omega)
    calc _ ≤ _ := ih
      _ ≤ _ := this
      _ = _ := by rw [Nat.mul_assoc, Nat.mul_comm 10]
theorem val_lim {l : List UInt8} (h : digs l = true) (hl : l.length ≤ 9) : val l ≤ 1000000000 := by
  have h1 := valF_lt l 0 h
  have h2 : 10 ^ l.length ≤ 10 ^ 9 := Nat.pow_le_pow_right (by omega) hl
  unfold val
  omega
theorem parseF_small {k : Nat} {l : List UInt8} (hk : 1 ≤ k) (hl : l.length = k) (h9 : k ≤ 9) : parseF k (48 :: 46 :: l) = if digs l then ((val l : Int), 0) else (0, 2) := by
  unfold parseF
  rw [if_neg (by omega)]
  have e1 : Go.Proofs.YtmmohbmgodiilaaDoor.num.unsigned (48 :: 46 :: l) = [48] ++ 46 :: l := rfl
  have e2 : Go.Proofs.YtmmohbmgodiilaaDoor.num.minus (48 :: 46 :: l) = false := rfl
  rw [e1, e2, cutDot_at (by decide)]
  simp only [Bool.true_and]
  have e3 : Go.Proofs.YtmmohbmgodiilaaDoor.num.whole [48] = true := by decide
  rw [e3, decide_eq_true hl]
  simp only [Bool.true_and]
  cases hd : digs l
  · rfl
  · rw [if_pos rfl, if_pos rfl]
    have e4 : val ([48] ++ l) = val l := rfl
    rw [e4]
    have := val_lim hd (by omega)
    unfold sgn
    rw [if_neg (by omega)]
    rfl

set_option maxHeartbeats 1000000 in
theorem mFmt_is (n k : Nat) (kz : Int) (hkz : kz = k) (t : ByteArray) (w : World) (he : Env w) (hk : 1 ≤ k) (h9 : k ≤ 9) (hn : n ≤ 1000000) (hl : (Lib.decDigits n).length ≤ k) (ht : t.data.toList = padTo k (Lib.decDigits n)) :
    Calls Tryd.prog 54 #[.int .i64 n, .int .i64 kz] w (GivesStr w t) := by
  subst hkz
  obtain ⟨f, hf⟩ := str_mk (48 :: 46 :: padTo k (Lib.decDigits n))
  have hfs : f.size = k + 2 := by
    rw [str_size hf]
    unfold padTo
    simp
    omega
  have hc : clamp (k : Int) = k := by unfold clamp; omega
  have hff : f.data.toList = fixL (clamp (k : Int)) (n : Int) := by rw [hc, fix_small hk hl, hf]
  have hft : f.extract 2 f.size = t := ext_list (by
    rw [Lib.extract_data, hf, ht, str_size hf]
    simp [List.take_of_length_le])
  have f2 : 2 ≤ f.size := by omega
  have f3 : f.size ≤ 20 := by omega
  have HF := Lib.hid hff
  have HT := Lib.hid hft
  have HN := Lib.hid (And.intro hn (And.intro hk h9))
  clear hf hfs hc hff hft ht hl
  go_enter Tryd.func54, Tryd.ntmps54
  go_wp2_with (go_at_call 61; refine (Go.Proofs.YtmmohbmgodiilaaDoor.num.FormatFixed_is (n : Int) (k : Int) f _ he.num (by have := HN.out; omega) (by have := HN.out; omega) HF.out).mono ?_; rintro e w1 ⟨rfl, hb1⟩)
  go_ret
  exact ⟨ret_str HT.out, hb1⟩

/-- the number that digits stand for, or 0 -/
def pdV (b : Bool) (l : List UInt8) : Int := if b then (val l : Int) else 0
def GivesIB (w : World) (v : Int) (b : Bool) (e : Ending) (w' : World) : Prop := e = .returned (.tuple #[.int .i64 v, .bool b]) ∧ Below w.heap.size w w'

set_option maxHeartbeats 1000000 in
theorem mPD_is (s : ByteArray) (v : Int) (b : Bool) (w : World) (he : Env w) (h1 : 1 ≤ s.size) (h9 : s.size ≤ 9) (hb : digs s.data.toList = b) (hv : pdV b s.data.toList = v) :
    Calls Tryd.prog 53 #[.string s] w (GivesIB w v b) := by
  obtain ⟨t, ht⟩ : ∃ t : ByteArray, ({ data := #[48, 46] } : ByteArray) ++ s = t := ⟨_, rfl⟩
  have htl : t.data.toList = 48 :: 46 :: s.data.toList := by rw [← ht]; simp
  have hts : t.size < 4294967281 := by rw [str_size htl, List.length_cons, List.length_cons, ← Lib.size_eq]; omega
  have hc : clamp (s.size : Int) = s.size := by unfold clamp; omega
  have hp : parseF (clamp (s.size : Int)) t.data.toList = (v, if b then 0 else 2) := by
    rw [hc, htl, parseF_small h1 (by rw [← Lib.size_eq]) h9, hb, ← hv]
    cases b <;> rfl
  have HT := Lib.hid ht
  have HS := Lib.hid hts
  cases b
  · have HP := Lib.hid (show parseF (clamp (s.size : Int)) t.data.toList = (v, 2) from hp)
    clear ht htl hts hc hp hb hv
    go_enter Tryd.func53, Tryd.ntmps53
    go_wp2_with (go_at_call 60; rw [HT.out]; refine (Go.Proofs.YtmmohbmgodiilaaDoor.num.ParseFixed_is t (s.size : Int) v 2 _ he.num HS.out HP.out).mono ?_; rintro e w1 ⟨rfl, hb1⟩)
    go_ret2
    exact ⟨rfl, hb1⟩
  · have HP := Lib.hid (show parseF (clamp (s.size : Int)) t.data.toList = (v, 0) from hp)
    clear ht htl hts hc hp hb hv
    go_enter Tryd.func53, Tryd.ntmps53
    go_wp2_with (go_at_call 60; rw [HT.out]; refine (Go.Proofs.YtmmohbmgodiilaaDoor.num.ParseFixed_is t (s.size : Int) v 0 _ he.num HS.out HP.out).mono ?_; rintro e w1 ⟨rfl, hb1⟩)
    go_ret2
    exact ⟨rfl, hb1⟩
end Go.Proofs.YtmmohbmgodiilaaDoor.cal
