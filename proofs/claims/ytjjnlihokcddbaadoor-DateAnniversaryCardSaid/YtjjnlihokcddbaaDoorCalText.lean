/-
  Plain mathematics of the texts of dates. No program text.
-/
import Derived.Test.YtjjnlihokcddbaaDoorCal
import Derived.Test.YtjjnlihokcddbaaDoorNumMath
namespace Go.Proofs.YtjjnlihokcddbaaDoor.cal
open Go Go.Proofs.YtjjnlihokcddbaaDoor.num
set_option linter.unusedVariables false

def textR (n : Int) : List UInt8 :=
  if okD n then padTo 4 (Lib.decDigits (1900 + kOf n)) ++ 45 :: (padTo 2 (Lib.decDigits (jOf n + 1)) ++ 45 :: padTo 2 (Lib.decDigits (dOf n).toNat)) else []
/-- the number of digits, or -1 -/
def digR (l : List UInt8) : Int := if digs l then (val l : Int) else -1
def okText (l : List UInt8) : Bool := decide (l.length = 10) && (l[4]? == some 45) && (l[7]? == some 45) && digs (l.take 4) && digs ((l.drop 5).take 2) && digs (l.drop 8)
def parseD (l : List UInt8) : Int × Int := if okText l then fromR (val (l.take 4)) (val ((l.drop 5).take 2)) (val (l.drop 8)) else (0, 2)

theorem dec_len2 {u : Nat} (h : u < 100) : (padTo 2 (Lib.decDigits u)).length = 2 := by
  rw [pad_length]
  have : (Lib.decDigits u).length ≤ 2 := by
    rw [Lib.decDigits_length]
    by_cases g : u < 10
    · rw [Lib.nDigits_small g]; omega
    · rw [Lib.nDigits_big g, Lib.nDigits_small (by omega)]; omega
  omega
theorem dec_len4 {u : Nat} (h : u < 10000) : (padTo 4 (Lib.decDigits u)).length = 4 := by
  rw [pad_length]
  have : (Lib.decDigits u).length ≤ 4 := by
    rw [Lib.decDigits_length]
    by_cases g : u < 10
    · rw [Lib.nDigits_small g]; omega
    · rw [Lib.nDigits_big g]
      by_cases g2 : u / 10 < 10
      · rw [Lib.nDigits_small g2]; omega
      · rw [Lib.nDigits_big g2]
        by_cases g3 : u / 10 / 10 < 10
        · rw [Lib.nDigits_small g3]; omega
        · rw [Lib.nDigits_big g3, Lib.nDigits_small (by omega)]; omega
  omega
/-- three parts with hyphens taken apart -/
theorem parts_of {a b c : List UInt8} (ha : a.length = 4) (hb : b.length = 2) (hc : c.length = 2) :
    (a ++ 45 :: (b ++ 45 :: c)).length = 10 ∧ (a ++ 45 :: (b ++ 45 :: c))[4]? = some 45 ∧ (a ++ 45 :: (b ++ 45 :: c))[7]? = some 45 ∧ (a ++ 45 :: (b ++ 45 :: c)).take 4 = a ∧ ((a ++ 45 :: (b ++ 45 :: c)).drop 5).take 2 = b ∧ (a ++ 45 :: (b ++ 45 :: c)).drop 8 = c := by
  match a, ha with
  | [a0, a1, a2, a3], _ =>
    match b, hb with
    | [b0, b1], _ =>
      match c, hc with
      | [c0, c1], _ => simp
theorem text_parts {n : Int} (h : okD n = true) : ∃ a b c : List UInt8, textR n = a ++ 45 :: (b ++ 45 :: c) ∧ a.length = 4 ∧ b.length = 2 ∧ c.length = 2 ∧ a = padTo 4 (Lib.decDigits (1900 + kOf n)) ∧ b = padTo 2 (Lib.decDigits (jOf n + 1)) ∧ c = padTo 2 (Lib.decDigits (dOf n).toNat) := by
  have I := Is.of n h
  have k1 := I.k1
  have j1 := I.j1
  have d1 := I.d1
  have db := dim_bd (1900 + (kOf n : Int)) ((jOf n : Int) + 1)
  exact ⟨_, _, _, by unfold textR; rw [if_pos h], dec_len4 (by omega), dec_len2 (by omega), dec_len2 (by omega), rfl, rfl, rfl⟩
theorem text_length {n : Int} (h : okD n = true) : (textR n).length = 10 := by
  obtain ⟨a, b, c, e, h1, h2, h3, -, -, -⟩ := text_parts h
  rw [e]; exact (parts_of h1 h2 h3).1
/-- the text of a date is read back as the date -/
theorem parse_text {n : Int} (h : okD n = true) : parseD (textR n) = (n, 0) := by
  obtain ⟨a, b, c, e, h1, h2, h3, ea, eb, ec⟩ := text_parts h
  obtain ⟨p1, p2, p3, p4, p5, p6⟩ := parts_of h1 h2 h3
  have I := Is.of n h
  have da : digs a = true := by rw [ea, digs_pad]; exact dec_digs _
  have db : digs b = true := by rw [eb, digs_pad]; exact dec_digs _
  have dc : digs c = true := by rw [ec, digs_pad]; exact dec_digs _
  unfold parseD okText
  rw [e, p1, p2, p3, p4, p5, p6, da, db, dc]
  simp only [decide_true, beq_self_eq_true, Bool.and_self, if_true]
  rw [ea, eb, ec, val_pad, val_pad, val_pad, dec_val, dec_val, dec_val]
  have d0 := I.d0
  rw [show (((1900 + kOf n : Nat)) : Int) = 1900 + (kOf n : Int) by omega, show ((jOf n + 1 : Nat) : Int) = (jOf n : Int) + 1 by omega, show ((dOf n).toNat : Int) = dOf n by omega]
  exact I.from
end Go.Proofs.YtjjnlihokcddbaaDoor.cal
