/-
  What the small functions of package numtext answer: allDigits.
-/
import Derived.Test.YtmmohbmgodiilaaDoorRows
import Derived.Test.YtmmohbmgodiilaaDoorPa
import Derived.WalkKit
import Derived.WalkLawsBesides
import Derived.WalkSpells
import Derived.Lib.Hide
namespace Go.Proofs.YtmmohbmgodiilaaDoor.num
open Go Go.RowKit
set_option linter.unusedVariables false

theorem tr {w a b : World} (h : Below w.heap.size w a) (k : Below a.heap.size a b) : Below w.heap.size w b := h.trans (k.mono h.size)
theorem al {w a : World} (h : Below w.heap.size w a) (o : Obj) : Below w.heap.size w (a.alloc o) := h.alloc h.size o
/-- The world behind an iterator's block: nothing older has turned. -/
theorem below_iter (w : World) (s : ByteArray) (p : Nat) : Below w.heap.size w (w.iter s p) := (Below.refl _ _).alloc (Nat.le_refl _) _

theorem ret_bool {a b : Bool} (h : a = b) : Ending.returned (.bool a) = Ending.returned (.bool b) := by rw [h]
theorem ret_int {k : IntKind} {a b : Int} (h : a = b) : Ending.returned (.int k a) = Ending.returned (.int k b) := by rw [h]
theorem ret_pair {x : Int × Int} {a b : Int} (h : x = (a, b)) : Ending.returned (.tuple #[.int .i64 a, .int .i64 b]) = Ending.returned (.tuple #[.int .i64 x.1, .int .i64 x.2]) := by rw [h]

theorem next_at {P : Program} (w : World) (s : ByteArray) (pos : Nat) (h : pos < s.size) :
    ∃ r d : Nat, (∀ ty, (Instr.next (.pointer (some ⟨w.heap.size, 0, none⟩)) true ty).run P (w.iter s pos) = .ok (.tuple #[.bool true, .int .i64 pos, .int .i32 r]) (w.iter s (pos + d))) ∧
      1 ≤ d ∧ pos + d ≤ s.size ∧ r ≤ 2147483647 ∧
      (((s[pos]'h).toNat < 128 ∧ r = (s[pos]'h).toNat ∧ d = 1) ∨ (128 ≤ (s[pos]'h).toNat ∧ 128 ≤ r ∧ ∀ j (hj : j < s.size), pos ≤ j → j < pos + d → 128 ≤ (s[j]'hj).toNat)) := by
  obtain ⟨h1, h2, h3⟩ := decode_step s pos h
  refine ⟨(Utf8.decode s pos).1, (Utf8.decode s pos).2, fun ty => run_next_any w s pos ty h, h1, h2, decode_le s pos, ?_⟩
  rcases h3 with ⟨a, b, c⟩ | ⟨a, b, c⟩
  · exact .inl ⟨a, b, c⟩
  · exact .inr ⟨a, b, c⟩

set_option maxHeartbeats 400000 in
theorem allDigits_any (s : ByteArray) (w : World) :
    Calls Tryd.prog 70 #[.string s] w fun e w' => e = .returned (.bool (digs s.data.toList)) ∧ Below w.heap.size w w' := by
  go_enter Tryd.func70, Tryd.ntmps70
  go_wp2
  go_loopw [] (fun wr => ∃ pos : Nat, pos ≤ s.size ∧ wr = w.iter s pos ∧ digs (s.data.toList.take pos) = true) (fun wr => s.size - wr.iterPos w.heap.size)
  case atStart => exact ⟨0, Nat.zero_le _, rfl, by simp [digs]⟩
  case round =>
    obtain ⟨pos, hle, rfl, hd⟩ := hrel
    have HD := Lib.hid hd
    clear hd
    by_cases hp : pos < s.size
    · obtain ⟨r, d, hnx, h1, h2, h3, h4⟩ := next_at (P := Tryd.prog) w s pos hp
      by_cases hr : 48 ≤ r ∧ r ≤ 57
      · obtain ⟨hr1, hr2⟩ := hr
        have H4 := Lib.hid h4
        clear h4
        go_wp2
        go_roundw
        case rel =>
          rcases H4.out with ⟨a, b, c⟩ | ⟨a, b, c⟩
          · subst c
            refine ⟨pos + 1, by omega, rfl, ?_⟩
            rw [take_snoc s pos hp, digs_snoc, HD.out, (dig_iff _).2 ⟨by omega, by omega⟩]; rfl
          · omega
        case measure => simp; omega
      · have hst : digs s.data.toList = false := digs_stop s pos hp (by rcases h4 with ⟨a, b, c⟩ | ⟨a, b, c⟩ <;> omega)
        have HS := Lib.hid hst
        clear h4 hst
        by_cases hr1 : r < 48
        · go_wp2
          go_ret
          exact ⟨ret_bool HS.out.symm, below_iter _ _ _⟩
        · have hr2 : 57 < r := by omega
          clear hr
          go_wp2
          go_ret
          exact ⟨ret_bool HS.out.symm, below_iter _ _ _⟩
    · have hnx : ∀ ty, (Instr.next (.pointer (some ⟨w.heap.size, 0, none⟩)) true ty).run Tryd.prog (w.iter s pos) = _ := fun ty => run_next_end w s pos ty hp
      go_wp2
      go_ret
      refine ⟨?_, below_iter _ _ _⟩
      have := HD.out
      rw [take_all s pos (by omega)] at this
      exact ret_bool this.symm

set_option maxHeartbeats 400000 in
theorem clampPlaces_any (p : Int) (w : World) :
    Calls Tryd.prog 65 #[.int .i64 p] w fun e w' => e = .returned (.int .i64 (clamp p)) ∧ w = w' := by
  go_enter Tryd.func65, Tryd.ntmps65
  go_wp2
  all_goals
    go_ret
    exact ⟨ret_int (by unfold clamp; omega), rfl⟩

theorem head_of (s : ByteArray) (h : 0 < s.size) : ∃ t, s.data.toList = (s[0]'h) :: t := by
  have := drop_cons s 0 h
  rw [List.drop_zero] at this
  exact ⟨_, this⟩
theorem whole_zero (s : ByteArray) (h : 0 < s.size) (hc : ((s[0]'h).toNat : Int) = 48) (hn : (s.toList == [48]) = false) : whole s.data.toList = false := by
  obtain ⟨t, ht⟩ := head_of s h
  have h48 : (s[0]'h) = 48 := by apply UInt8.toNat_inj.1; show _ = 48; omega
  rw [Lib.toList_data] at hn
  simp [whole, hn]
  intro _
  rw [ht, h48]; simp
theorem whole_one (s : ByteArray) (hn : (s.toList == [48]) = true) : whole s.data.toList = digs s.data.toList := by
  rw [Lib.toList_data] at hn
  have := eq_of_beq hn
  rw [this]; decide
theorem whole_other (s : ByteArray) (h : 0 < s.size) (hc : ¬ ((s[0]'h).toNat : Int) = 48) : whole s.data.toList = digs s.data.toList := by
  obtain ⟨t, ht⟩ := head_of s h
  have h48 : ¬ (s[0]'h) = 48 := fun e => hc (by rw [e]; rfl)
  rw [ht]
  simp [whole, h48]

set_option maxHeartbeats 400000 in
theorem isWholePart_any (s : ByteArray) (w : World) :
    Calls Tryd.prog 69 #[.string s] w fun e w' => e = .returned (.bool (whole s.data.toList)) ∧ Below w.heap.size w w' := by
  by_cases hz : 0 < s.size
  · have hne : ¬ s.toList = [] := by rw [Lib.toList_data]; intro e; rw [Lib.size_eq, e] at hz; simp at hz
    have he : s.toList.isEmpty = false := by rw [List.isEmpty_eq_false_iff]; exact hne
    by_cases hc : ((s[0]'hz).toNat : Int) = 48
    · cases hn : (s.toList == [48])
      · have H := Lib.hid (whole_zero s hz hc hn)
        go_enter Tryd.func69, Tryd.ntmps69
        go_wp2_with fail
        go_ret
        exact ⟨ret_bool H.out.symm, Below.refl _ _⟩
      · have H := Lib.hid (whole_one s hn)
        go_enter Tryd.func69, Tryd.ntmps69
        go_wp2_with (go_at_call 70; refine (allDigits_any _ _).mono ?_; rintro e w' ⟨rfl, hb⟩)
        go_ret
        exact ⟨ret_bool H.out.symm, hb⟩
    · have H := Lib.hid (whole_other s hz hc)
      go_enter Tryd.func69, Tryd.ntmps69
      go_wp2_with (go_at_call 70; refine (allDigits_any _ _).mono ?_; rintro e w' ⟨rfl, hb⟩)
      go_ret
      exact ⟨ret_bool H.out.symm, hb⟩
  · have hne : s.toList = [] := by rw [Lib.toList_data]; apply List.eq_nil_of_length_eq_zero; rw [← Lib.size_eq]; omega
    have H := Lib.hid (show whole s.data.toList = false by rw [← Lib.toList_data, hne]; rfl)
    go_enter Tryd.func69, Tryd.ntmps69
    go_wp2_with fail
    go_ret
    exact ⟨ret_bool H.out.symm, Below.refl _ _⟩

/-! ### the number -/
theorem valF_snoc (m : Nat) (l : List UInt8) (c : UInt8) : valF m (l ++ [c]) = 10 * valF m l + (c.toNat - 48) := by simp [valF]
theorem valF_mono (l : List UInt8) : ∀ m, m ≤ valF m l := by
  induction l with
  | nil => intro m; exact Nat.le_refl _
  | cons c l ih => intro m; have := ih (10 * m + (c.toNat - 48)); simp only [valF, List.foldl_cons] at this ⊢; omega
theorem val_take_le (l : List UInt8) (k : Nat) : val (l.take k) ≤ val l := by
  have : val l = valF (val (l.take k)) (l.drop k) := by
    show valF 0 l = valF (valF 0 (l.take k)) (l.drop k)
    unfold valF; rw [← List.foldl_append, List.take_append_drop]
  rw [this]; exact valF_mono _ _
theorem val_step (s : ByteArray) (k : Nat) (h : k < s.size) : val (s.data.toList.take (k + 1)) = 10 * val (s.data.toList.take k) + ((s[k]'h).toNat - 48) := by
  rw [take_snoc s k h]; exact valF_snoc _ _ _

set_option maxHeartbeats 800000 in
theorem signedNumber_any (s : ByteArray) (neg : Bool) (w : World) (hd : digs s.data.toList = true) :
    Calls Tryd.prog 71 #[.string s, .bool neg] w fun e w' => e = .returned (.tuple #[.int .i64 (sgn (val s.data.toList) neg).1, .int .i64 (sgn (val s.data.toList) neg).2]) ∧ Below w.heap.size w w' := by
  have HD := Lib.hid hd
  clear hd
  go_enter Tryd.func71, Tryd.ntmps71
  go_wp2
  go_loopw [6] (fun v wr => ∃ pos : Nat, pos ≤ s.size ∧ wr = w.iter s pos ∧ val (s.data.toList.take pos) ≤ 4611686018427387904 ∧ v = .int .i64 (val (s.data.toList.take pos) : Nat)) (fun _ wr => s.size - wr.iterPos w.heap.size)
  case atStart => exact ⟨0, Nat.zero_le _, rfl, by simp [val, valF], by simp [val, valF]⟩
  case round =>
    obtain ⟨pos, hle, rfl, hv, rfl⟩ := hrel
    by_cases hp : pos < s.size
    · obtain ⟨r, d, hnx, h1, h2, h3, h4⟩ := next_at (P := Tryd.prog) w s pos hp
      obtain ⟨g1, g2⟩ := digs_at s HD.out pos hp
      have hr : r = (s[pos]'hp).toNat ∧ d = 1 := by
        rcases h4 with ⟨a, b, c⟩ | ⟨a, b, c⟩
        · exact ⟨b, c⟩
        · omega
      obtain ⟨hr, rfl⟩ := hr
      have hr1 : 48 ≤ r := by omega
      have hr2 : r ≤ 57 := by omega
      have HS := Lib.hid (val_step s pos hp)
      have HR := Lib.hid hr
      clear h4 hr g1 g2
      obtain ⟨m, hm⟩ : ∃ m, val (s.data.toList.take pos) = m := ⟨_, rfl⟩
      rw [hm] at hv ⊢
      have HM := Lib.hid hm
      clear hm
      go_wp2
      · go_ret2
        have hb : sgn (val s.data.toList) neg = (0, 3) := by
          have h5 := val_take_le s.data.toList (pos + 1)
          rw [HS.out, HM.out, ← HR.out] at h5
          have h6 : (4611686018427387904 - ((r : Int) - 48)) / 10 < (m : Int) := by assumption
          unfold sgn
          rw [if_pos (by omega)]
        exact ⟨ret_pair hb, below_iter _ _ _⟩
      · have h6 : (m : Int) ≤ (4611686018427387904 - ((r : Int) - 48)) / 10 := by assumption
        go_roundw
        case rel =>
          refine ⟨pos + 1, by omega, rfl, ?_, ?_⟩
          · rw [HS.out, HM.out, ← HR.out]; omega
          · rw [HS.out, HM.out, ← HR.out]
            congr 1
            omega
        case measure => simp; omega
    · have hnx : ∀ ty, (Instr.next (.pointer (some ⟨w.heap.size, 0, none⟩)) true ty).run Tryd.prog (w.iter s pos) = _ := fun ty => run_next_end w s pos ty hp
      rw [take_all s pos (by omega)] at hv ⊢
      obtain ⟨m, hm⟩ : ∃ m, val s.data.toList = m := ⟨_, rfl⟩
      rw [hm] at hv ⊢
      have HM := Lib.hid hm
      clear hm
      have h62 : ¬ 4611686018427387904 < m := by omega
      have H62 := Lib.hid h62
      clear h62
      cases neg
      · go_wp2
        go_ret2
        exact ⟨ret_pair (by rw [HM.out]; unfold sgn; rw [if_neg H62.out]; rfl), below_iter _ _ _⟩
      · by_cases hm0 : m = 0
        · subst hm0
          go_wp2
          go_ret2
          exact ⟨ret_pair (by rw [HM.out]; rfl), below_iter _ _ _⟩
        · have hm1 : ((m : Int) == 0) = false := by simpa using hm0
          go_wp2
          go_ret2
          exact ⟨ret_pair (by rw [HM.out]; unfold sgn; rw [if_neg H62.out, if_pos rfl, if_neg hm0]), below_iter _ _ _⟩
end Go.Proofs.YtmmohbmgodiilaaDoor.num
