/-
  What the reference's Fields and SplitLines answer: the walks, against the same plain functions as the program's.
-/
import Derived.Test.YtgdibahgmpomeaaDoorNumLines
import Derived.Laws.OwnMore
namespace Go.Proofs.YtgdibahgmpomeaaDoor.num
open Go Go.RowKit Go.Proofs.YtgdibahgmpomeaaDoor.strs
set_option linter.unusedVariables false

/-- What holds at every round's head of the reference's walk over the words. -/
def WRel (w : World) (s : ByteArray) (v fr : Value) (wr : World) (k : Nat) (out : List (List UInt8)) : Prop :=
  (wr.ownsRow w.heap.size 9 1 v out.length (out.map strV) ∧ Below w.heap.size w wr ∧ out.length ≤ k) ∧
  ((fr = .int .i64 (-1) ∧ k ≤ s.size ∧ out ++ fieldsA [] (s.data.toList.drop k) = fieldsA [] s.data.toList) ∨
   (fr = .int .i64 (-1) ∧ k = s.size + 1 ∧ out = fieldsA [] s.data.toList) ∨
   ∃ p : Nat, fr = .int .i64 p ∧ p < k ∧ k ≤ s.size ∧ out ++ fieldsA (seg s.data.toList p k) (s.data.toList.drop k) = fieldsA [] s.data.toList)

theorem fields_skip (s : ByteArray) (k : Nat) (hk : k < s.size) (h : blank (s[k]'hk) = true) : fieldsA [] (s.data.toList.drop k) = fieldsA [] (s.data.toList.drop (k + 1)) := by
  rw [drop_cons s k hk, fieldsA, h]; rfl
theorem fields_start (s : ByteArray) (k : Nat) (hk : k < s.size) (h : blank (s[k]'hk) = false) : fieldsA [] (s.data.toList.drop k) = fieldsA (seg s.data.toList k (k + 1)) (s.data.toList.drop (k + 1)) := by
  have := fields_over s k k 1 (Nat.le_refl _) hk (fun j hj a b => by obtain rfl : j = k := by omega
                                                                     exact h)
  rw [seg_self] at this; exact this
theorem fields_out (s : ByteArray) (p k : Nat) (hk : k < s.size) (hp : p < k) (h : blank (s[k]'hk) = true) : fieldsA (seg s.data.toList p k) (s.data.toList.drop k) = seg s.data.toList p k :: fieldsA [] (s.data.toList.drop (k + 1)) := by
  rw [fields_blank s p k hk h, if_pos hp, seg_self]; rfl
theorem fields_last (s : ByteArray) : fieldsA [] (s.data.toList.drop s.size) = [] := by
  rw [List.drop_of_length_le (by rw [← Lib.size_eq]; exact Nat.le_refl _)]; rfl

theorem own_push {w wr w1 : World} {v v' : Value} {out : List (List UInt8)} {o : Obj} {x : List UInt8} (hown : wr.ownsRow w.heap.size 9 1 v out.length (out.map strV)) (hb : Below w.heap.size w wr)
    (hown1 : w1.ownsRow w.heap.size 9 1 v' (out ++ [x]).length ((out ++ [x]).map strV)) (hg : (wr.alloc o).grownBy w1 v.ownBlock) : Below w.heap.size w w1 :=
  (hb.alloc hb.size o).grown hg (by have := hb.size; simp; omega) (fun k hk => (hown.lt k hk).1)
theorem two_no (c : UInt8) (h : ¬ (c.toNat = 32 ∨ c.toNat = 9)) : ¬ (c.toNat : Int) = 32 ∧ ¬ (c.toNat : Int) = 9 := by omega

set_option maxHeartbeats 2000000 in
theorem rFields_is (s : ByteArray) (w : World) (hs : s.size ≤ 900000) :
    Calls Tryd.prog 20 #[.string s] w fun e w' => ∃ v, e = .returned v ∧ Strs w' v (fieldsA [] s.data.toList) ∧ Below w.heap.size w w' := by
  go_enter Tryd.func20, Tryd.ntmps20
  go_wp2
  go_loopw [3, 4, 5] (fun v fr i wr => ∃ (k : Nat) (out : List (List UInt8)), i = .int .i64 k ∧ WRel w s v fr wr k out) (fun _ _ i _ => s.size + 1 - (intOf i).toNat)
  case atStart =>
    refine ⟨0, [], rfl, ⟨World.ownsRow_lit w #[] 0 (Nat.le_refl _) (by decide) (by simp), (Below.refl _ _).alloc (Nat.le_refl _) _, Nat.le_refl _⟩, .inl ⟨rfl, Nat.zero_le _, by simp⟩⟩
  case round =>
    obtain ⟨k, out, rfl, hR⟩ := hrel
    obtain ⟨⟨hown, hbel, hlen⟩, hR⟩ := hR
    have HO := Lib.hid hown
    have hksz := hbel.size
    clear hown
    by_cases hk : k < s.size
    · have hki : ¬ (k : Int) = s.size := by omega
      by_cases hc : (s[k]'hk).toNat = 32 ∨ (s[k]'hk).toNat = 9
      · have HB := Lib.hid ((blank_iff _).2 hc)
        rcases hR with ⟨rfl, h1, h2⟩ | ⟨rfl, h1, h2⟩ | ⟨p, rfl, hp, h1, h2⟩
        · have H2 := Lib.hid h2
          clear h2
          rcases hc with hc | hc
          · have hci : ((s[k]'hk).toNat : Int) = 32 := by omega
            clear hc
            go_wp2_with fail
            go_roundw
            case rel => exact ⟨k + 1, out, by go_num, ⟨HO.out, hbel, by omega⟩, .inl ⟨rfl, by omega, by rw [← fields_skip s k hk HB.out]; exact H2.out⟩⟩
            case measure => (first | (simp [intOf]; done) | (simp [intOf]; omega))
          · have hci : ((s[k]'hk).toNat : Int) = 9 := by omega
            clear hc
            go_wp2_with fail
            go_roundw
            case rel => exact ⟨k + 1, out, by go_num, ⟨HO.out, hbel, by omega⟩, .inl ⟨rfl, by omega, by rw [← fields_skip s k hk HB.out]; exact H2.out⟩⟩
            case measure => (first | (simp [intOf]; done) | (simp [intOf]; omega))
        · omega
        · have h3 := h2
          rw [fields_out s p k hk hp HB.out] at h3
          have H3 := Lib.hid h3
          clear h2 h3
          rcases hc with hc | hc
          · have hci : ((s[k]'hk).toNat : Int) = 32 := by omega
            clear hc
            go_wp2_with (at_builtin; refine wpList_append_str rfl _ _ rfl w.heap.size _ out rfl HO.out (s.extract p k) (seg s.data.toList p k) (seg_data s p k) rfl (by omega) hksz ?_; intro v' w1 hown1 hg1)
            go_roundw
            case rel => exact ⟨k + 1, out ++ [seg s.data.toList p k], by go_num, ⟨hown1, own_push HO.out hbel hown1 hg1, by simp; omega⟩, .inl ⟨rfl, by omega, by rw [List.append_assoc]; exact H3.out⟩⟩
            case measure => (first | (simp [intOf]; done) | (simp [intOf]; omega))
          · have hci : ((s[k]'hk).toNat : Int) = 9 := by omega
            clear hc
            go_wp2_with (at_builtin; refine wpList_append_str rfl _ _ rfl w.heap.size _ out rfl HO.out (s.extract p k) (seg s.data.toList p k) (seg_data s p k) rfl (by omega) hksz ?_; intro v' w1 hown1 hg1)
            go_roundw
            case rel => exact ⟨k + 1, out ++ [seg s.data.toList p k], by go_num, ⟨hown1, own_push HO.out hbel hown1 hg1, by simp; omega⟩, .inl ⟨rfl, by omega, by rw [List.append_assoc]; exact H3.out⟩⟩
            case measure => (first | (simp [intOf]; done) | (simp [intOf]; omega))
      · have HB := Lib.hid (blank_false hc)
        obtain ⟨hc1, hc2⟩ := two_no _ hc
        have hb0 : ((k : Int) == s.size) = false := by simp; omega
        have hb1 : (((s[k]'hk).toNat : Int) == 32) = false := by simp; omega
        have hb2 : (((s[k]'hk).toNat : Int) == 9) = false := by simp; omega
        clear hc
        rcases hR with ⟨rfl, h1, h2⟩ | ⟨rfl, h1, h2⟩ | ⟨p, rfl, hp, h1, h2⟩
        · have h3 := h2
          rw [fields_start s k hk HB.out] at h3
          have H3 := Lib.hid h3
          clear h2 h3
          go_wp2_with fail
          go_roundw
          case rel => exact ⟨k + 1, out, by go_num, ⟨HO.out, hbel, by omega⟩, .inr (.inr ⟨k, rfl, by omega, by omega, H3.out⟩)⟩
          case measure => (first | (simp [intOf]; done) | (simp [intOf]; omega))
        · omega
        · have h3 := h2
          rw [fields_over s p k 1 (by omega) (by omega) (fun j hj a b => by obtain rfl : j = k := by omega
                                                                            exact HB.out)] at h3
          have H3 := Lib.hid h3
          clear h2 h3
          go_wp2_with fail
          go_roundw
          case rel => exact ⟨k + 1, out, by go_num, ⟨HO.out, hbel, by omega⟩, .inr (.inr ⟨p, rfl, by omega, by omega, H3.out⟩)⟩
          case measure => (first | (simp [intOf]; done) | (simp [intOf]; omega))
    · rcases hR with ⟨rfl, h1, h2⟩ | ⟨rfl, h1, h2⟩ | ⟨p, rfl, hp, h1, h2⟩
      · obtain rfl : k = s.size := by omega
        have h3 := h2
        rw [fields_last, List.append_nil] at h3
        have H3 := Lib.hid h3
        clear h2 h3
        go_wp2_with fail
        go_roundw
        case rel => exact ⟨s.size + 1, out, by go_num, ⟨HO.out, hbel, by omega⟩, .inr (.inl ⟨rfl, rfl, H3.out⟩)⟩
        case measure => (first | (simp [intOf]; done) | (simp [intOf]; omega))
      · have H2 := Lib.hid h2
        clear h2
        go_wp2_with fail
        go_ret
        exact ⟨_, rfl, by rw [← H2.out]; exact Strs.of_own HO.out (by omega), hbel⟩
      · obtain rfl : k = s.size := by omega
        have h3 := h2
        rw [fields_end, if_pos hp] at h3
        have H3 := Lib.hid h3
        clear h2 h3
        go_wp2_with (at_builtin; refine wpList_append_str rfl _ _ rfl w.heap.size _ out rfl HO.out (s.extract p s.size) (seg s.data.toList p s.size) (seg_data s p s.size) rfl (by omega) hksz ?_; intro v' w1 hown1 hg1)
        go_roundw
        case rel => exact ⟨s.size + 1, out ++ [seg s.data.toList p s.size], by go_num, ⟨hown1, own_push HO.out hbel hown1 hg1, by simp; omega⟩, .inr (.inl ⟨rfl, rfl, H3.out⟩)⟩
        case measure => (first | (simp [intOf]; done) | (simp [intOf]; omega))

/-- What holds at every round's head of the reference's walk over the lines. -/
structure SRel (w : World) (s : ByteArray) (v st i : Value) (wr : World) (k p : Nat) (out : List (List UInt8)) : Prop where
  own : wr.ownsRow w.heap.size 9 1 v out.length (out.map strV)
  below : Below w.heap.size w wr
  k_le : k ≤ s.size
  p_le : p ≤ k
  len : out.length ≤ k
  st : st = .int .i64 p
  i : i = .int .i64 k
  ok : (s.data.toList.take k).all okT = true
  sum : (out ++ (linesA (seg s.data.toList p k) (s.data.toList.drop k)).1, (linesA (seg s.data.toList p k) (s.data.toList.drop k)).2) = linesA [] s.data.toList
theorem SRel.step {w wr : World} {s : ByteArray} {v st i : Value} {k p : Nat} {out : List (List UInt8)} (R : SRel w s v st i wr k p out) (hk : k < s.size) (hc : okT (s[k]'hk) = true) (hn : ¬ (s[k]'hk).toNat = 10) :
    SRel w s v (.int .i64 p) (.int .i64 ((k + 1 : Nat) : Int)) wr (k + 1) p out where
  own := R.own
  below := R.below
  k_le := hk
  p_le := by have := R.p_le; omega
  len := by have := R.len; omega
  st := rfl
  i := rfl
  ok := by rw [ok_snoc s k hk, R.ok, hc]; rfl
  sum := by have h := R.sum; rw [lines_other s p k R.p_le hk hn] at h; exact h
theorem SRel.push {w wr w1 : World} {s : ByteArray} {v v' st i : Value} {k p : Nat} {out : List (List UInt8)} (R : SRel w s v st i wr k p out) {o : Obj} (hk : k < s.size) (hn : (s[k]'hk).toNat = 10)
    (hown : w1.ownsRow w.heap.size 9 1 v' (out ++ [seg s.data.toList p k]).length ((out ++ [seg s.data.toList p k]).map strV)) (hg : (wr.alloc o).grownBy w1 v.ownBlock) :
    SRel w s v' (.int .i64 ((k + 1 : Nat) : Int)) (.int .i64 ((k + 1 : Nat) : Int)) w1 (k + 1) (k + 1) (out ++ [seg s.data.toList p k]) where
  own := hown
  below := own_push R.own R.below hown hg
  k_le := hk
  p_le := Nat.le_refl _
  len := by have := R.len; simp; omega
  st := rfl
  i := rfl
  ok := by rw [ok_snoc s k hk, R.ok, (okT_iff _).2 (.inr (.inl hn))]; rfl
  sum := by
    have h := R.sum
    rw [lines_feed s p k hk hn] at h
    rw [← h, List.append_assoc]; rfl
theorem lenS_of {w wr : World} {s : ByteArray} {v st i : Value} {k p : Nat} {out : List (List UInt8)} (R : SRel w s v st i wr k p out) (hs : s.size ≤ 65536) : out.length ≤ 1000000 := by
  have := R.len; have := R.k_le; omega
theorem split_none {s : ByteArray} (hs : s.size ≤ 65536) (h : s.data.toList.all okT = false) : splitL s.data.toList = ([], 2) := split_bad hs h

set_option maxHeartbeats 2000000 in
theorem rSplitLines_is (s : ByteArray) (w : World) :
    Calls Tryd.prog 22 #[.string s] w fun e w' => ∃ v, e = .returned (.tuple #[v, .int .i64 (splitL s.data.toList).2]) ∧ Strs w' v (splitL s.data.toList).1 ∧ Below w.heap.size w w' := by
  by_cases hs : s.size ≤ 65536
  · have hs0 : ¬ (65536 : Int) < s.size := by omega
    go_enter Tryd.func22, Tryd.ntmps22
    go_wp2
    go_loopw [4, 5, 6] (fun v st i wr => ∃ (k p : Nat) (out : List (List UInt8)), SRel w s v st i wr k p out) (fun _ _ i _ => s.size - (intOf i).toNat)
    case atStart =>
      refine ⟨0, 0, [], ?_⟩
      exact { own := World.ownsRow_lit w #[] 0 (Nat.le_refl _) (by decide) (by simp), below := (Below.refl _ _).alloc (Nat.le_refl _) _, k_le := Nat.zero_le _, p_le := Nat.le_refl _, len := Nat.le_refl _, st := rfl, i := rfl, ok := rfl, sum := by simp [seg_self] }
    case round =>
      obtain ⟨k, p, out, R⟩ := hrel
      obtain rfl := R.st
      obtain rfl := R.i
      have hkp := R.p_le
      have hkl := R.k_le
      have HR := Lib.hid R
      clear R
      by_cases hk : k < s.size
      · by_cases hc : (s[k]'hk).toNat = 10
        · have HC := Lib.hid hc
          have hci : ((s[k]'hk).toNat : Int) = 10 := by omega
          clear hc
          go_wp2_with (at_builtin; refine wpList_append_str rfl _ _ rfl w.heap.size _ out rfl HR.out.own (s.extract p k) (seg s.data.toList p k) (seg_data s p k) rfl (lenS_of HR.out hs) HR.out.below.size ?_; intro v' w1 hown1 hg1)
          have R2 := Lib.hid (HR.out.push hk HC.out hown1 hg1)
          go_roundw
          case rel => exact ⟨k + 1, k + 1, out ++ [seg s.data.toList p k], R2.out⟩
          case measure => (first | (simp [intOf]; done) | (simp [intOf]; omega))
        · by_cases hg : (s[k]'hk).toNat = 9 ∨ (32 ≤ (s[k]'hk).toNat ∧ (s[k]'hk).toNat ≤ 126)
          · have R2 := Lib.hid (HR.out.step hk ((okT_iff _).2 (by omega)) hc)
            have hb1 : (((s[k]'hk).toNat : Int) == 10) = false := by simp; omega
            rcases hg with hg | hg
            · have hci : ((s[k]'hk).toNat : Int) = 9 := by omega
              clear hc hg
              go_wp2_with fail
              go_roundw
              case rel => exact ⟨k + 1, p, out, R2.out⟩
              case measure => (first | (simp [intOf]; done) | (simp [intOf]; omega))
            · have hc1 : ¬ ((s[k]'hk).toNat : Int) < 32 := by omega
              have hc2 : ¬ (126 : Int) < (s[k]'hk).toNat := by omega
              clear hc hg
              go_wp2_with fail
              go_roundw
              case rel => exact ⟨k + 1, p, out, R2.out⟩
              case measure => (first | (simp [intOf]; done) | (simp [intOf]; omega))
          · have HF := Lib.hid (split_none hs (ok_stop s k hk (by
              rw [Bool.eq_false_iff]; intro e
              have := (okT_iff _).1 e
              omega)))
            have hb1 : (((s[k]'hk).toNat : Int) == 10) = false := by simp; omega
            have hb2 : (((s[k]'hk).toNat : Int) == 9) = false := by simp; omega
            have hb3 : (((s[k]'hk).toNat : Int) != 10) = true := by simp; omega
            have hb4 : (((s[k]'hk).toNat : Int) != 9) = true := by simp; omega
            by_cases hlo : (s[k]'hk).toNat < 32
            · have hc1 : ((s[k]'hk).toNat : Int) < 32 := by omega
              clear hc hg hlo
              go_wp2_with fail
              go_ret2
              rw [HF.out]
              exact ⟨.slice none 0 0, rfl, Strs.nil _ _ _, HR.out.below⟩
            · have hc1 : ¬ ((s[k]'hk).toNat : Int) < 32 := by omega
              have hc2 : (126 : Int) < (s[k]'hk).toNat := by omega
              clear hc hg hlo
              go_wp2_with fail
              go_ret2
              rw [HF.out]
              exact ⟨.slice none 0 0, rfl, Strs.nil _ _ _, HR.out.below⟩
      · obtain rfl : k = s.size := by omega
        have hsum := HR.out.sum
        rw [lines_end, List.append_nil] at hsum
        have hok := HR.out.ok
        rw [take_all s s.size (Nat.le_refl _)] at hok
        have hsp : splitL s.data.toList = if p < s.size then ([], 2) else (out, 0) := by
          unfold splitL
          rw [if_neg (by rw [← Lib.size_eq]; omega), hok, ← hsum]
          simp only [Bool.not_true, Bool.false_eq_true, if_false]
          rw [seg_empty _ (by rw [← Lib.size_eq]; omega)]
          by_cases hlt : p < s.size <;> simp [hlt]
        have HF := Lib.hid hsp
        clear hsum hok hsp
        by_cases hlt : p < s.size
        · go_wp2_with fail
          go_ret2
          have h := HF.out
          rw [if_pos hlt] at h
          rw [h]
          exact ⟨.slice none 0 0, rfl, Strs.nil _ _ _, HR.out.below⟩
        · go_wp2_with fail
          go_ret2
          have h := HF.out
          rw [if_neg hlt] at h
          rw [h]
          exact ⟨_, rfl, Strs.of_own (ls := out) HR.out.own (Nat.le_trans (lenS_of HR.out hs) (by decide)), HR.out.below⟩
  · have h1 : splitL s.data.toList = ([], 4) := by unfold splitL; rw [if_pos (by rw [← Lib.size_eq]; omega)]
    have H := Lib.hid h1
    have hs0 : (65536 : Int) < s.size := by omega
    clear h1
    go_enter Tryd.func22, Tryd.ntmps22
    go_wp2
    go_ret2
    rw [H.out]
    exact ⟨.slice none 0 0, rfl, Strs.nil _ _ _, Below.refl _ _⟩
end Go.Proofs.YtgdibahgmpomeaaDoor.num
