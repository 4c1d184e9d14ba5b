/-
  Plain mathematics of package numtext: what its functions answer, over lists of bytes, and the laws between them (parsing what was formatted, formatting what was parsed). No program text.
-/
import Derived.Lib.Strings
import Derived.Lib.ItoaNum
import Derived.Lib.ItoaLen
import Derived.Lib.Repeat
import Derived.Lib.IndexMore
import Derived.Lib.IndexLaws
import Derived.Laws.RangeAny
namespace Go.Proofs.YtjjnlihokcddbaaDoor.num
open Go

/-- a decimal digit -/
def dig (c : UInt8) : Bool := decide (48 ≤ c.toNat) && decide (c.toNat ≤ 57)
/-- all bytes are digits -/
def digs (l : List UInt8) : Bool := l.all dig
/-- the number that digits stand for -/
def valF (m : Nat) (l : List UInt8) : Nat := l.foldl (fun m c => 10 * m + (c.toNat - 48)) m
def val (l : List UInt8) : Nat := valF 0 l
/-- digits without a superfluous leading zero -/
def whole (l : List UInt8) : Bool := !l.isEmpty && !(l.head? == some 48 && !(l == [48])) && digs l
/-- the number with a sign, or the error -/
def sgn (n : Nat) (neg : Bool) : Int × Int :=
  if 4611686018427387904 < n then (0, 3) else if neg then (if n = 0 then (0, 2) else (-(n : Int), 0)) else ((n : Int), 0)
def minus (l : List UInt8) : Bool := l.head? == some 45
def unsigned (l : List UInt8) : List UInt8 := if minus l then l.drop 1 else l
def parseI (l : List UInt8) : Int × Int := if whole (unsigned l) then sgn (val (unsigned l)) (minus l) else (0, 2)
/-- the places, clamped -/
def clamp (p : Int) : Nat := (min (max p 0) 9).toNat
def padTo (k : Nat) (d : List UInt8) : List UInt8 := List.replicate (k - d.length) 48 ++ d
def fixL (k : Nat) (n : Int) : List UInt8 :=
  if k = 0 then Lib.itoa n else
  (if n < 0 then [45] else []) ++ ((padTo (k + 1) (Lib.decDigits n.natAbs)).take ((padTo (k + 1) (Lib.decDigits n.natAbs)).length - k) ++ 46 :: (padTo (k + 1) (Lib.decDigits n.natAbs)).drop ((padTo (k + 1) (Lib.decDigits n.natAbs)).length - k))
/-- what stands before and behind the first point, and whether there is one -/
def cutDot (l : List UInt8) : List UInt8 × List UInt8 × Bool := Lib.cut l [46]
def parseF (k : Nat) (l : List UInt8) : Int × Int :=
  if k = 0 then parseI l else
  if (cutDot (unsigned l)).2.2 && whole (cutDot (unsigned l)).1 && decide ((cutDot (unsigned l)).2.1.length = k) && digs (cutDot (unsigned l)).2.1
  then sgn (val ((cutDot (unsigned l)).1 ++ (cutDot (unsigned l)).2.1)) (minus l) else (0, 2)

theorem dig_iff (c : UInt8) : dig c = true ↔ 48 ≤ c.toNat ∧ c.toNat ≤ 57 := by simp [dig]

/-! ### a range over a string -/
theorem get_of (s : ByteArray) (i : Nat) (h : i < s.size) : s.get! i = s[i]'h := by
  have := get_at s i h
  simpa using this

/-- A step of a range over a string: a byte below 128 is its own rune; else the rune is 128 or more, and it takes bytes that are all 128 or more. -/
theorem decode_step (s : ByteArray) (pos : Nat) (h : pos < s.size) :
    1 ≤ (Utf8.decode s pos).2 ∧ pos + (Utf8.decode s pos).2 ≤ s.size ∧
    (((s[pos]'h).toNat < 128 ∧ (Utf8.decode s pos).1 = (s[pos]'h).toNat ∧ (Utf8.decode s pos).2 = 1) ∨
     (128 ≤ (s[pos]'h).toNat ∧ 128 ≤ (Utf8.decode s pos).1 ∧ ∀ j (hj : j < s.size), pos ≤ j → j < pos + (Utf8.decode s pos).2 → 128 ≤ (s[j]'hj).toNat)) := by
  by_cases ha : (s[pos]'h).toNat < 128
  · rw [decode_ascii s pos h ha]
    exact ⟨by simp, by simp; omega, .inl ⟨ha, rfl, rfl⟩⟩
  · have hd := decode_high s pos h (by omega)
    have key : (Utf8.decode s pos).2 = 1 ∨ (∀ j, 1 ≤ j → j < (Utf8.decode s pos).2 → pos + j < s.size ∧ 128 ≤ (s.get! (pos + j)).toNat) := by
      have hn : ¬ (s.get! (pos + 0)).toNat < 128 := by rw [get_at s pos h]; exact ha
      have hn' : ¬ (s.get! (pos + 0)).toNat < 0x80 := hn
      simp only [Utf8.decode, hn', if_false]
      have hc : ∀ k, (decide (pos + k < s.size) && (s.get! (pos + k)).toNat / 64 == 2) = true → pos + k < s.size ∧ 128 ≤ (s.get! (pos + k)).toNat := by
        intro k hk
        simp only [Bool.and_eq_true, decide_eq_true_eq, beq_iff_eq] at hk
        exact ⟨hk.1, by omega⟩
      by_cases c1 : ((s.get! (pos + 0)).toNat / 32 == 6 && (decide (pos + 1 < s.size) && (s.get! (pos + 1)).toNat / 64 == 2)) = true
      · simp only [c1, if_true]
        simp only [Bool.and_eq_true] at c1
        have c1' := hc 1 (by simp only [Bool.and_eq_true]; exact c1.2)
        split
        · right
          intro j h1 h2
          obtain rfl : j = 1 := by simp at h2; omega
          exact c1'
        · left; rfl
      · simp only [c1, Bool.false_eq_true, if_false]
        by_cases c2 : ((s.get! (pos + 0)).toNat / 16 == 14 && (decide (pos + 1 < s.size) && (s.get! (pos + 1)).toNat / 64 == 2) && (decide (pos + 2 < s.size) && (s.get! (pos + 2)).toNat / 64 == 2)) = true
        · simp only [c2, if_true]
          rw [Bool.and_eq_true] at c2
          have hA := c2.1
          rw [Bool.and_eq_true] at hA
          have c1' := hc 1 hA.2
          have c2' := hc 2 c2.2
          split
          · right
            intro j h1 h2
            simp at h2
            rcases (by omega : j = 1 ∨ j = 2) with rfl | rfl
            · exact c1'
            · exact c2'
          · left; rfl
        · simp only [c2, Bool.false_eq_true, if_false]
          by_cases c3 : ((s.get! (pos + 0)).toNat / 8 == 30 && (decide (pos + 1 < s.size) && (s.get! (pos + 1)).toNat / 64 == 2) && (decide (pos + 2 < s.size) && (s.get! (pos + 2)).toNat / 64 == 2) && (decide (pos + 3 < s.size) && (s.get! (pos + 3)).toNat / 64 == 2)) = true
          · simp only [c3, if_true]
            rw [Bool.and_eq_true] at c3
            have hA := c3.1
            rw [Bool.and_eq_true] at hA
            have hB := hA.1
            rw [Bool.and_eq_true] at hB
            have c1' := hc 1 hB.2
            have c2' := hc 2 hA.2
            have c3' := hc 3 c3.2
            split
            · right
              intro j h1 h2
              simp at h2
              rcases (by omega : j = 1 ∨ j = 2 ∨ j = 3) with rfl | rfl | rfl
              · exact c1'
              · exact c2'
              · exact c3'
            · left; rfl
          · simp only [c3, Bool.false_eq_true, if_false]
            left; trivial
    refine ⟨hd.2, ?_, .inr ⟨by omega, hd.1, ?_⟩⟩
    · rcases key with k | k
      · omega
      · rcases Nat.lt_or_ge 1 (Utf8.decode s pos).2 with g | g
        · have := (k ((Utf8.decode s pos).2 - 1) (by omega) (by omega)).1
          omega
        · omega
    · intro j hj h1 h2
      rcases Nat.eq_or_lt_of_le h1 with e | e
      · subst e; omega
      · rcases key with k | k
        · omega
        · have := (k (j - pos) (by omega) (by omega)).2
          rw [show pos + (j - pos) = j by omega, get_of s j hj] at this
          exact this

theorem take_snoc (s : ByteArray) (k : Nat) (h : k < s.size) : s.data.toList.take (k + 1) = s.data.toList.take k ++ [s[k]'h] := by
  rw [List.take_succ_eq_append_getElem (by simpa using h)]; rfl
theorem drop_cons (s : ByteArray) (k : Nat) (h : k < s.size) : s.data.toList.drop k = (s[k]'h) :: s.data.toList.drop (k + 1) := by
  rw [List.drop_eq_getElem_cons (by simpa using h)]; rfl
theorem take_all (s : ByteArray) (k : Nat) (h : s.size ≤ k) : s.data.toList.take k = s.data.toList := List.take_of_length_le (by simpa using h)

theorem digs_at (s : ByteArray) (h : digs s.data.toList = true) (k : Nat) (hk : k < s.size) : 48 ≤ (s[k]'hk).toNat ∧ (s[k]'hk).toNat ≤ 57 := by
  have := List.all_eq_true.1 h (s[k]'hk) (by
    have : (s[k]'hk) = s.data.toList[k]'(by simpa using hk) := by simp; rfl
    rw [this]; exact List.getElem_mem _)
  exact (dig_iff _).1 this
theorem digs_stop (s : ByteArray) (k : Nat) (hk : k < s.size) (h : (s[k]'hk).toNat < 48 ∨ 57 < (s[k]'hk).toNat) : digs s.data.toList = false := by
  rw [Bool.eq_false_iff]
  intro hc
  have := digs_at s hc k hk
  omega
theorem digs_snoc (l : List UInt8) (c : UInt8) : digs (l ++ [c]) = (digs l && dig c) := by simp [digs]

end Go.Proofs.YtjjnlihokcddbaaDoor.num
