/-
  The law NumtextCanonical walked: every accepted text is the formatted form of its number, and the lines make up the text.
-/
import Derived.Test.YtgdibahgmpomeaaDoorNumAwake
namespace Go.Proofs.YtgdibahgmpomeaaDoor.num
open Go Go.RowKit Go.Sort Go.Proofs.YtgdibahgmpomeaaDoor.strs
set_option linter.unusedVariables false

def joinL (ls : List (List UInt8)) : List UInt8 := ls.flatMap (fun l => l ++ [10])
theorem linesA_join : ∀ (l cur : List UInt8), joinL (linesA cur l).1 ++ (linesA cur l).2 = cur ++ l
  | [], cur => by simp [linesA, joinL]
  | c :: l, cur => by
    rw [linesA]
    by_cases h : c = 10
    · rw [if_pos h]
      have := linesA_join l []
      simp only [joinL, List.flatMap_cons] at this ⊢
      rw [List.append_assoc, List.append_assoc, this, h]; simp
    · rw [if_neg h, linesA_join l (cur ++ [c])]; simp
theorem split_join {l : List UInt8} {ls : List (List UInt8)} (h : splitL l = (ls, 0)) : joinL ls = l := by
  unfold splitL at h
  split at h
  · simp at h
  · split at h
    · simp at h
    · split at h
      · simp at h
      · rename_i h3
        simp only [Prod.mk.injEq, and_true] at h
        have := linesA_join l []
        rw [h] at this
        have h4 : (linesA [] l).2 = [] := by simpa using h3
        rw [h4] at this; simpa using this
theorem split_err {l : List UInt8} {ls : List (List UInt8)} {c : Int} (h : splitL l = (ls, c)) (hc : c ≠ 0) : ls = [] := by
  unfold splitL at h
  split at h
  · simp at h; exact h.1
  · split at h
    · simp at h; exact h.1
    · split at h
      · simp at h; exact h.1
      · simp only [Prod.mk.injEq] at h
        exact absurd h.2.symm hc
theorem split_len {s : ByteArray} {ls : List (List UInt8)} (h : splitL s.data.toList = (ls, 0)) : ls.length ≤ s.size := by
  have := split_join h
  rw [Lib.size_eq, ← this]
  unfold joinL
  clear this h
  induction ls with
  | nil => simp
  | cons a t ih => rw [List.flatMap_cons, List.length_append, List.length_append, List.length_cons]; simp only [List.length_singleton]; omega
/-- the text before the k-th line -/
def upTo (ls : List (List UInt8)) (k : Nat) : Nat := (joinL (ls.take k)).length
theorem line_at {s : ByteArray} {ls : List (List UInt8)} (h : joinL ls = s.data.toList) {k : Nat} {y : ByteArray} (hk : ls[k]? = some y.data.toList) :
    ∃ hlt : upTo ls k + y.size < s.size, s.extract (upTo ls k) (upTo ls k + y.size) = y ∧ (s[upTo ls k + y.size]'hlt).toNat = 10 ∧ upTo ls (k + 1) = upTo ls k + y.size + 1 := by
  have hs : s.data.toList = joinL (ls.take k) ++ (y.data.toList ++ (10 :: joinL (ls.drop (k + 1)))) := by
    rw [← h]
    have e : ls = ls.take k ++ y.data.toList :: ls.drop (k + 1) := by
      obtain ⟨hl, he⟩ := List.getElem?_eq_some_iff.1 hk
      rw [← he, ← List.drop_eq_getElem_cons hl, List.take_append_drop]
    conv => lhs; rw [e]
    simp [joinL]
  have hn : upTo ls k = (joinL (ls.take k)).length := rfl
  have hlt : upTo ls k + y.size < s.size := by
    rw [Lib.size_eq s, hs, hn, Lib.size_eq y]; simp
  refine ⟨hlt, ?_, ?_, ?_⟩
  · apply ext_list
    rw [Lib.extract_data, hs, hn, List.drop_left, Nat.add_sub_cancel_left, Lib.size_eq y, List.take_left]
  · have e : (s[upTo ls k + y.size]'hlt) = s.data.toList[upTo ls k + y.size]'(by rw [← Lib.size_eq]; exact hlt) := by simp; rfl
    have e2 : s.data.toList[upTo ls k + y.size]? = some 10 := by
      rw [hs, hn, List.getElem?_append_right (by omega), Nat.add_sub_cancel_left, Lib.size_eq y, List.getElem?_append_right (by omega), Nat.sub_self]; rfl
    rw [List.getElem?_eq_getElem (by rw [← Lib.size_eq]; exact hlt)] at e2
    rw [e, Option.some.inj e2]; rfl
  · unfold upTo
    rw [List.take_add_one, hk]
    unfold joinL
    rw [List.flatMap_append, List.length_append]
    simp only [Option.toList_some, List.flatMap_cons, List.flatMap_nil, List.append_nil, List.length_append, List.length_singleton]
    rw [Lib.size_eq y]; omega
theorem upTo_all {s : ByteArray} {ls : List (List UInt8)} (h : joinL ls = s.data.toList) : upTo ls ls.length = s.size := by
  unfold upTo; rw [List.take_length, h, Lib.size_eq]
theorem sgn_range {n : Nat} {m : Bool} {a : Int} (h : sgn n m = (a, 0)) : -4611686018427387904 ≤ a ∧ a ≤ 4611686018427387904 := by
  unfold sgn at h
  split at h
  · simp at h
  · split at h
    · split at h
      · simp at h
      · simp only [Prod.mk.injEq, and_true] at h; omega
    · simp only [Prod.mk.injEq, and_true] at h; omega
theorem parseI_range {l : List UInt8} {a : Int} (h : parseI l = (a, 0)) : -4611686018427387904 ≤ a ∧ a ≤ 4611686018427387904 := by
  unfold parseI at h
  split at h
  · exact sgn_range h
  · simp at h
theorem parseF_range {k : Nat} {l : List UInt8} {a : Int} (h : parseF k l = (a, 0)) : -4611686018427387904 ≤ a ∧ a ≤ 4611686018427387904 := by
  unfold parseF at h
  split at h
  · exact parseI_range h
  · split at h
    · exact sgn_range h
    · simp at h

/-- The formatted number where the text was accepted; whatever else. -/
theorem fmtI {s : ByteArray} {a c : Int} (h : parseI s.data.toList = (a, c)) (hc : c = 0) : s.data.toList = Lib.itoa a := by
  subst hc; exact (parseI_ok h).symm
theorem fmtF {s : ByteArray} {p a c : Int} (h : parseF (clamp p) s.data.toList = (a, c)) (hc : c = 0) : s.data.toList = fixL (clamp p) a := by
  subst hc; exact (parseF_ok h).symm

set_option maxHeartbeats 2000000 in
theorem walk_NumtextCanonical (s : ByteArray) (p : Int) (ws : s.size ≤ maxLen) (wp : -9223372036854775808 ≤ p ∧ p ≤ 9223372036854775807) (w : World) (he : Env w) :
    Calls Tryd.prog 8 #[.string s, .int .i64 p] w fun e w' => e = .returned (.bool true) ∧ Below w.heap.size w w' := by
  clear ws wp
  by_cases hs : 70000 < s.size
  · have hsi : (70000 : Int) < s.size := by omega
    go_enter Tryd.func8, Tryd.ntmps8
    go_wp2_with (go_at_call 9; refine (awake_is _ he).mono ?_; rintro e w5 ⟨rfl, hb5⟩)
    go_ret
    exact ⟨rfl, hb5⟩
  · have hsi : ¬ (70000 : Int) < s.size := by omega
    have hrefl : (s.toList == s.toList) = true := by simp
    obtain ⟨⟨a, c⟩, hA⟩ : ∃ r, parseI s.data.toList = r := ⟨_, rfl⟩
    obtain ⟨⟨b, d⟩, hB⟩ : ∃ r, parseF (clamp p) s.data.toList = r := ⟨_, rfl⟩
    obtain ⟨⟨ls, g⟩, hL⟩ : ∃ r, splitL s.data.toList = r := ⟨_, rfl⟩
    have hjoin : g = 0 → joinL ls = s.data.toList := fun e => split_join (by rw [← e]; exact hL)
    have hnil : ¬ g = 0 → ls = [] := fun e => split_err hL e
    have hll : ls.length ≤ 70000 := by
      by_cases e : g = 0
      · have := split_len (s := s) (ls := ls) (by rw [← e]; exact hL); omega
      · rw [hnil e]; simp
    have HA := Lib.hid hA
    have HB := Lib.hid hB
    have HL := Lib.hid hL
    have HJ := Lib.hid (And.intro hjoin hnil)
    have HFI := Lib.hid (show (c == 0) = true → s.data.toList = Lib.itoa a ∧ -4611686018427387904 ≤ a ∧ a ≤ 4611686018427387904 from fun e => ⟨fmtI hA (by simpa using e), parseI_range (by rw [hA, show c = 0 by simpa using e])⟩)
    have HFF := Lib.hid (show (d == 0) = true → s.data.toList = fixL (clamp p) b ∧ -4611686018427387904 ≤ b ∧ b ≤ 4611686018427387904 from fun e => ⟨fmtF hB (by simpa using e), parseF_range (by rw [hB, show d = 0 by simpa using e])⟩)
    clear hA hB hL hjoin hnil
    cases hc1 : (c == 0) <;> cases hd1 : (d == 0)
    all_goals
      have HC := Lib.hid hc1
      have HD := Lib.hid hd1
      go_enter Tryd.func8, Tryd.ntmps8
      go_wp2_with (first
        | (go_at_call 10; refine (ParseInt_is s a c _ HA.out).mono ?_; rintro e w1 ⟨rfl, hb1⟩)
        | (go_at_call 14; refine (ParseFixed_is s p b d _ (he.below hb1) (by omega) HB.out).mono ?_; rintro e w2 ⟨rfl, hb2⟩; have hB := tr hb1 hb2)
        | (go_at_call 12; refine (FormatInt_is a s _ (he.below hB) (by have := (HFI.out HC.out).2; omega) (by have := (HFI.out HC.out).2; omega) (HFI.out HC.out).1).mono ?_; rintro e w3 ⟨rfl, hb3⟩; replace hB := tr hB hb3)
        | (go_at_call 16; refine (FormatFixed_is b p s _ (he.below hB) (by have := (HFF.out HD.out).2; omega) (by have := (HFF.out HD.out).2; omega) (HFF.out HD.out).1).mono ?_; rintro e w4 ⟨rfl, hb4⟩; replace hB := tr hB hb4)
        | (go_at_call 21; refine (SplitLines_eq s ls g _ HL.out).mono ?_; rintro e w5 ⟨v, rfl, hv, hb5⟩; replace hB := tr hB hb5)
        | fail)
      obtain ⟨A, cp, rfl⟩ := form0 hv
      have HV := Lib.hid hv
      clear hv
      go_loopw [11, 12] (fun at_ i wr => ∃ k j : Nat, k ≤ ls.length ∧ wr = w5.drewN j ∧ i = .int .i64 k ∧ at_ = .int .i64 (upTo ls k)) (fun _ i _ => ls.length - (intOf i).toNat)
      case atStart => exact ⟨0, 0, Nat.zero_le _, rfl, rfl, rfl⟩
      case round =>
        obtain ⟨k, j, hk, rfl, rfl, rfl⟩ := hrel
        by_cases hlt : k < ls.length
        · have hg : g = 0 := by
            by_cases e : g = 0
            · exact e
            · rw [HJ.out.2 e] at hlt; simp at hlt
          obtain ⟨ga, oa, xa, hva, hga, hca⟩ := form HV.out (by omega)
          simp only [Value.slice.injEq] at hva
          obtain ⟨rfl, -, -⟩ := hva
          obtain ⟨x, hx⟩ : ∃ x, ls[k]? = some x := ⟨_, List.getElem?_eq_getElem hlt⟩
          obtain ⟨y, hy⟩ := str_mk x
          have c1 := hca k x hx
          unfold strV at c1
          rw [str_eq hy] at c1
          rw [← hy] at hx
          obtain ⟨hl, he1, he2, he3⟩ := line_at (HJ.out.1 hg) hx
          obtain ⟨q, hq⟩ : ∃ q, upTo ls k = q := ⟨_, rfl⟩
          rw [hq] at he3 ⊢
          simp only [hq] at he1 he2 hl
          have f1 : ((s.extract q (q + y.size)).toList == y.toList) = true := by rw [he1]; simp
          have f2 : (((s[q + y.size]'hl).toNat : Int) != 10) = false := by simp; omega
          have f3 : (((s[q + y.size]'hl).toNat : Int) == 10) = true := by simp; omega
          have g1 : decide ((s.size : Int) ≤ (q : Int) + (y.size : Int)) = false := by rw [decide_eq_false_iff_not]; omega
          have g2 : decide (s.size ≤ q + y.size) = false := by rw [decide_eq_false_iff_not]; omega
          have hsl : ∀ W : World, (Instr.slice 9 (.string s) (some (.int .i64 (q : Int))) (some (.int .i64 ((q : Int) + (y.size : Int)))) none).run Tryd.prog W = .ok (.string y) W := fun W => by
            rw [run_slice_string (P := Tryd.prog) W 9 s .i64 .i64 (q : Int) ((q : Int) + (y.size : Int)) Tryd.underlying9 (by omega) (by omega) (by omega)]
            rw [show ((q : Int)).toNat = q by omega, show ((q : Int) + (y.size : Int)).toNat = q + y.size by omega, he1]
          have hix : ∀ W : World, (Instr.index 9 (.string s) (.int .i64 ((q : Int) + (y.size : Int)))).run Tryd.prog W = .ok (.int .u8 10) W := fun W => by
            rw [run_index_string (P := Tryd.prog) W 9 s .i64 ((q : Int) + (y.size : Int)) Tryd.underlying9, dif_pos ⟨by omega, by omega⟩]
            have e : ((q : Int) + (y.size : Int)).toNat = q + y.size := by omega
            simp only [e]
            rw [show ((s[q + y.size]'hl).toNat : Int) = 10 by omega]
          have hyy : (y.toList == y.toList) = true := by simp
          have H3 := Lib.hid he3
          clear hca hx hy he1 he2 he3 hq hg
          go_wp2_with fail
          go_quiet (fail)
          go_wp2
          go_roundw
          case rel => exact ⟨k + 1, _, by omega, rfl, by go_num, by rw [H3.out]; go_num⟩
          case measure => (first | (simp [intOf]; done) | (simp [intOf]; omega))
        · obtain rfl : k = ls.length := by omega
          by_cases hg : g = 0
          · have hu := upTo_all (HJ.out.1 hg)
            have hg1 : (g == 0) = true := by rw [hg]; rfl
            have hg2 : (g != 0) = false := by rw [hg]; rfl
            rw [hu]
            clear hu hg
            go_wp2_with (go_at_call 9; refine (awake_is _ (he.below (tr hB (below_drewN (Below.refl _ _) _)))).mono ?_; rintro e w6 ⟨rfl, hb6⟩)
            go_ret
            exact ⟨rfl, tr (tr hB (below_drewN (Below.refl _ _) _)) hb6⟩
          · have hg1 : (g == 0) = false := by simpa using hg
            have hg2 : (g != 0) = true := by simpa using hg
            go_wp2_with (go_at_call 9; refine (awake_is _ (he.below (tr hB (below_drewN (Below.refl _ _) _)))).mono ?_; rintro e w6 ⟨rfl, hb6⟩)
            go_ret
            exact ⟨rfl, tr (tr hB (below_drewN (Below.refl _ _) _)) hb6⟩
end Go.Proofs.YtgdibahgmpomeaaDoor.num
