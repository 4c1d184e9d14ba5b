/-
  Plain mathematics of package numtext, second part: parsing what was formatted gives the number back, and formatting what was parsed gives the text back. No program text.
-/
import Derived.Test.YtjjnlihokcddbaaDoorNumSpec
namespace Go.Proofs.YtjjnlihokcddbaaDoor.num
open Go

theorem u8_ofNat (d : Nat) (h : d < 10) : (UInt8.ofNat (48 + d)).toNat = 48 + d := by
  rw [UInt8.toNat_ofNat']; exact Nat.mod_eq_of_lt (by omega)
theorem dec_small {u : Nat} (h : u < 10) : Lib.decDigits u = [UInt8.ofNat (48 + u)] := by rw [Lib.decDigits, dif_pos h]
theorem dec_big {u : Nat} (h : ¬ u < 10) : Lib.decDigits u = Lib.decDigits (u / 10) ++ [UInt8.ofNat (48 + u % 10)] := by rw [Lib.decDigits, dif_neg h]

theorem dec_digs (u : Nat) : digs (Lib.decDigits u) = true := by
  induction u using Nat.strongRecOn with
  | _ u ih =>
    by_cases h : u < 10
    · rw [dec_small h]
      have := u8_ofNat u h
      simp only [digs, List.all_cons, List.all_nil, Bool.and_true]
      exact (dig_iff _).2 (by omega)
    · rw [dec_big h, digs_snoc, ih _ (by omega), Bool.true_and]
      have := u8_ofNat (u % 10) (by omega)
      exact (dig_iff _).2 (by omega)
theorem valF_app (m : Nat) (l : List UInt8) (c : UInt8) : valF m (l ++ [c]) = 10 * valF m l + (c.toNat - 48) := by simp [valF]
theorem dec_val (u : Nat) : val (Lib.decDigits u) = u := by
  induction u using Nat.strongRecOn with
  | _ u ih =>
    by_cases h : u < 10
    · rw [dec_small h]
      have := u8_ofNat u h
      simp only [val, valF, List.foldl_cons, List.foldl_nil]
      omega
    · rw [dec_big h]
      have e := ih (u / 10) (by omega)
      unfold val at e ⊢
      rw [valF_app, e]
      have := u8_ofNat (u % 10) (by omega)
      omega
theorem dec_ne (u : Nat) : Lib.decDigits u ≠ [] := by
  by_cases h : u < 10
  · rw [dec_small h]; simp
  · rw [dec_big h]; simp
theorem dec_head (u : Nat) (h0 : 1 ≤ u) : (Lib.decDigits u).head? ≠ some 48 := by
  induction u using Nat.strongRecOn with
  | _ u ih =>
    by_cases h : u < 10
    · rw [dec_small h]
      have := u8_ofNat u h
      intro e
      simp only [List.head?_cons, Option.some.injEq] at e
      rw [e] at this
      have h48 : (48 : UInt8).toNat = 48 := rfl
      omega
    · rw [dec_big h]
      have i := ih (u / 10) (by omega) (by omega)
      cases hh : Lib.decDigits (u / 10) with
      | nil => exact absurd hh (dec_ne _)
      | cons c t => rw [hh] at i; simpa using i
theorem dec_whole (u : Nat) : whole (Lib.decDigits u) = true := by
  unfold whole
  rw [dec_digs, Bool.and_true, Bool.and_eq_true]
  refine ⟨by simp [dec_ne], ?_⟩
  by_cases h0 : u = 0
  · subst h0; rw [dec_small (by decide)]; decide
  · have := dec_head u (by omega)
    simp [this]
theorem dec_minus (u : Nat) : minus (Lib.decDigits u) = false := by
  have hd := dec_digs u
  unfold minus
  cases hl : Lib.decDigits u with
  | nil => rfl
  | cons c t =>
    rw [hl] at hd
    simp only [digs, List.all_cons, Bool.and_eq_true] at hd
    have := (dig_iff c).1 hd.1
    have h45 : ¬ c = 45 := fun e => by rw [e] at this; have : (45 : UInt8).toNat = 45 := rfl; omega
    simp [h45]
theorem itoa_neg {n : Int} (h : n < 0) : Lib.itoa n = 45 :: Lib.decDigits n.natAbs := by unfold Lib.itoa; rw [if_pos h]
theorem itoa_pos {n : Int} (h : ¬ n < 0) : Lib.itoa n = Lib.decDigits n.natAbs := by
  unfold Lib.itoa; rw [if_neg h]; congr 1; omega
theorem minus_itoa (n : Int) : minus (Lib.itoa n) = decide (n < 0) := by
  by_cases h : n < 0
  · rw [itoa_neg h]; simp [minus, h]
  · rw [itoa_pos h, dec_minus]; simp [h]
theorem unsigned_itoa (n : Int) : unsigned (Lib.itoa n) = Lib.decDigits n.natAbs := by
  unfold unsigned
  rw [minus_itoa]
  by_cases h : n < 0
  · rw [itoa_neg h]; simp [h]
  · rw [itoa_pos h]; simp [h]
/-- what parsing a formatted number answers -/
def back (n : Int) : Int × Int := if n < -4611686018427387904 ∨ 4611686018427387904 < n then (0, 3) else (n, 0)
theorem sgn_abs (n : Int) : sgn n.natAbs (decide (n < 0)) = back n := by
  unfold sgn back
  by_cases h : 4611686018427387904 < n.natAbs
  · rw [if_pos h, if_pos (by omega)]
  · have hb : ¬ (n < -4611686018427387904 ∨ 4611686018427387904 < n) := by omega
    rw [if_neg h, if_neg (c := n < -4611686018427387904 ∨ 4611686018427387904 < n) hb]
    by_cases hn : n < 0
    · have h0 : ¬ n.natAbs = 0 := by omega
      rw [if_pos (by simpa using hn), if_neg h0]
      congr 1; omega
    · rw [if_neg (by simpa using hn)]
      congr 1; omega
theorem parseI_itoa (n : Int) : parseI (Lib.itoa n) = back n := by
  unfold parseI
  rw [unsigned_itoa, dec_whole, if_pos rfl, dec_val, minus_itoa, sgn_abs]

/-! ### the point -/
theorem cutDot_nil : cutDot [] = ([], [], false) := rfl
theorem cutDot_dot (l : List UInt8) : cutDot (46 :: l) = ([], l, true) := by
  have : Lib.index (46 :: l) [46] = 0 := by simp [Lib.index, List.isPrefixOf]
  simp [cutDot, Lib.cut, this]
theorem cutDot_cons (c : UInt8) (l : List UInt8) (h : ¬ c = 46) : cutDot (c :: l) = if (cutDot l).2.2 then (c :: (cutDot l).1, (cutDot l).2.1, true) else (c :: l, [], false) := by
  have hp : List.isPrefixOf [46] (c :: l) = false := by simp [List.isPrefixOf]; exact fun e => h e.symm
  have hg := Lib.index_ge l [46]
  by_cases h1 : Lib.index l [46] = -1
  · have : Lib.index (c :: l) [46] = -1 := by simp [Lib.index, hp, h1]
    simp [cutDot, Lib.cut, this, h1]
  · have e : Lib.index (c :: l) [46] = Lib.index l [46] + 1 := by simp [Lib.index, hp, h1]
    have h0 : 0 ≤ Lib.index l [46] := by omega
    obtain ⟨i, hi⟩ : ∃ i : Nat, Lib.index l [46] = i := ⟨(Lib.index l [46]).toNat, by omega⟩
    rw [hi] at e
    have e1 : ((i : Int) + 1).toNat = i + 1 := by omega
    simp [cutDot, Lib.cut, e, hi, e1]
    have : (0 : Int) ≤ (i : Int) + 1 := by omega
    simp [this]
theorem cutDot_spec (l : List UInt8) : (46 ∉ l ∧ cutDot l = (l, [], false)) ∨ ∃ a b, l = a ++ 46 :: b ∧ 46 ∉ a ∧ cutDot l = (a, b, true) := by
  induction l with
  | nil => exact .inl ⟨by simp, cutDot_nil⟩
  | cons c l ih =>
    by_cases h : c = 46
    · subst h; exact .inr ⟨[], l, rfl, by simp, cutDot_dot l⟩
    · rw [cutDot_cons c l h]
      rcases ih with ⟨h1, h2⟩ | ⟨a, b, h1, h2, h3⟩
      · refine .inl ⟨?_, by rw [h2]; rfl⟩
        simp only [List.mem_cons, not_or]
        exact ⟨fun e => h e.symm, h1⟩
      · refine .inr ⟨c :: a, b, by rw [h1]; rfl, ?_, by rw [h3]; rfl⟩
        simp only [List.mem_cons, not_or]
        exact ⟨fun e => h e.symm, h2⟩
theorem digs_nodot {l : List UInt8} (h : digs l = true) : 46 ∉ l := by
  intro hm
  have := (dig_iff 46).1 (List.all_eq_true.1 h 46 hm)
  have h46 : (46 : UInt8).toNat = 46 := rfl
  omega
theorem cutDot_at {a b : List UInt8} (h : 46 ∉ a) : cutDot (a ++ 46 :: b) = (a, b, true) := by
  induction a with
  | nil => exact cutDot_dot b
  | cons c a ih =>
    simp only [List.mem_cons, not_or] at h
    have := ih h.2
    rw [List.cons_append, cutDot_cons c _ (fun e => h.1 e.symm), this]; rfl

/-! ### digits and their number -/
theorem digs_app (a b : List UInt8) : digs (a ++ b) = (digs a && digs b) := by simp [digs]
theorem digs_rep (k : Nat) : digs (List.replicate k 48) = true := by simp [digs, List.all_replicate, dig]
theorem valF_append (m : Nat) (a b : List UInt8) : valF m (a ++ b) = valF (valF m a) b := by simp [valF]
theorem valF_rep (k : Nat) : valF 0 (List.replicate k 48) = 0 := by
  induction k with
  | zero => rfl
  | succ k ih => rw [List.replicate_succ]; simpa [valF] using ih
theorem val_pad (k : Nat) (l : List UInt8) : val (padTo k l) = val l := by
  unfold val padTo; rw [valF_append, valF_rep]
theorem digs_pad (k : Nat) (l : List UInt8) : digs (padTo k l) = digs l := by
  unfold padTo; rw [digs_app, digs_rep, Bool.true_and]
theorem pad_length (k : Nat) (l : List UInt8) : (padTo k l).length = max k l.length := by
  simp [padTo]; omega
theorem valF_ge (l : List UInt8) : ∀ m, m ≤ valF m l := by
  induction l with
  | nil => intro m; exact Nat.le_refl _
  | cons c l ih => intro m; have := ih (10 * m + (c.toNat - 48)); simp only [valF, List.foldl_cons] at this ⊢; omega
theorem val_pos {c : UInt8} {l : List UInt8} (hc : dig c = true) (h : ¬ c = 48) : 1 ≤ val (c :: l) := by
  have h1 := (dig_iff c).1 hc
  have h2 : c.toNat ≠ 48 := fun e => h (UInt8.toNat_inj.1 e)
  have := valF_ge l (10 * 0 + (c.toNat - 48))
  have e : val (c :: l) = valF (10 * 0 + (c.toNat - 48)) l := rfl
  omega
/-- digits without a leading zero are the numeral of their number -/
theorem dec_of_val {c : UInt8} (h : ¬ c = 48) : ∀ (n : Nat) (l : List UInt8), l.length = n → digs (c :: l) = true → Lib.decDigits (val (c :: l)) = c :: l
  | 0, l, hn, hd => by
    obtain rfl := List.eq_nil_of_length_eq_zero hn
    have hc : dig c = true := by simpa [digs] using hd
    have h1 := (dig_iff c).1 hc
    have e : val [c] = c.toNat - 48 := by simp [val, valF]
    rw [e, dec_small (by omega)]
    congr 1
    apply UInt8.toNat_inj.1
    rw [u8_ofNat _ (by omega)]; omega
  | n + 1, l, hn, hd => by
    rcases List.eq_nil_or_concat l with rfl | ⟨t, x, rfl⟩
    · simp at hn
    · rw [List.concat_eq_append] at hn hd ⊢
      rw [← List.cons_append] at hd ⊢
      rw [digs_snoc, Bool.and_eq_true] at hd
      have hx := (dig_iff x).1 hd.2
      have ih := dec_of_val h n t (by simp at hn; omega) hd.1
      have hc : dig c = true := by
        have := hd.1; simp only [digs, List.all_cons, Bool.and_eq_true] at this; exact this.1
      have hp := val_pos (l := t) hc h
      have e : val ((c :: t) ++ [x]) = 10 * val (c :: t) + (x.toNat - 48) := valF_app _ _ _
      rw [e, dec_big (by omega), show (10 * val (c :: t) + (x.toNat - 48)) / 10 = val (c :: t) by omega, show (10 * val (c :: t) + (x.toNat - 48)) % 10 = x.toNat - 48 by omega, ih]
      congr 2
      apply UInt8.toNat_inj.1
      rw [u8_ofNat _ (by omega)]; omega
/-- digits are their number's numeral, filled up with zeros -/
theorem pad_dec : ∀ (l : List UInt8), l ≠ [] → digs l = true → padTo l.length (Lib.decDigits (val l)) = l ∧ (Lib.decDigits (val l)).length ≤ l.length
  | [], h, _ => absurd rfl h
  | c :: t, _, hd => by
    by_cases h : c = 48
    · subst h
      by_cases ht : t = []
      · subst ht; rw [show val [48] = 0 from rfl, dec_small (by decide)]; decide
      · have hd' : digs t = true := by simp only [digs, List.all_cons, Bool.and_eq_true] at hd; exact hd.2
        obtain ⟨i1, i2⟩ := pad_dec t ht hd'
        have e : val (48 :: t) = val t := rfl
        rw [e]
        refine ⟨?_, by simp; omega⟩
        unfold padTo at i1 ⊢
        rw [List.length_cons, show t.length + 1 - (Lib.decDigits (val t)).length = (t.length - (Lib.decDigits (val t)).length) + 1 by omega, List.replicate_succ, List.cons_append, i1]
    · rw [dec_of_val h t.length t rfl hd]
      simp [padTo]
theorem whole_dec {l : List UInt8} (h : whole l = true) : Lib.decDigits (val l) = l := by
  unfold whole at h
  rw [Bool.and_eq_true, Bool.and_eq_true] at h
  obtain ⟨⟨h1, h2⟩, h3⟩ := h
  cases l with
  | nil => simp at h1
  | cons c t =>
    by_cases hc : c = 48
    · subst hc
      have ht : t = [] := by simpa using h2
      subst ht
      rw [show val [48] = 0 from rfl, dec_small (by decide)]; rfl
    · exact dec_of_val hc t.length t rfl h3

theorem unsigned_back (l : List UInt8) : l = if minus l then 45 :: unsigned l else unsigned l := by
  unfold unsigned
  cases l with
  | nil => rfl
  | cons c t =>
    by_cases h : c = 45
    · subst h; rfl
    · simp [minus, h]
theorem sgn_ok {n : Nat} {m : Bool} {a : Int} (h : sgn n m = (a, 0)) : a.natAbs = n ∧ decide (a < 0) = m := by
  unfold sgn at h
  split at h
  · simp at h
  · cases m
    · simp at h; subst h; exact ⟨by simp, by simp⟩
    · simp only [if_true] at h
      split at h
      · simp at h
      · simp only [Prod.mk.injEq, and_true] at h
        subst h; exact ⟨by simp, by simp; omega⟩
theorem parseI_ok {l : List UInt8} {a : Int} (h : parseI l = (a, 0)) : Lib.itoa a = l := by
  unfold parseI at h
  split at h
  · rename_i hw
    obtain ⟨h1, h2⟩ := sgn_ok h
    have hl := unsigned_back l
    rw [← h2] at hl
    by_cases hn : a < 0
    · rw [itoa_neg hn, h1, whole_dec hw]
      rw [decide_eq_true hn, if_pos rfl] at hl; exact hl.symm
    · rw [itoa_pos hn, h1, whole_dec hw]
      rw [decide_eq_false hn] at hl; exact hl.symm
  · simp at h

/-! ### fixed-point numbers -/
theorem whole_digs' {l : List UInt8} (h : whole l = true) : digs l = true := by
  unfold whole at h; rw [Bool.and_eq_true] at h; exact h.2
theorem whole_ne {l : List UInt8} (h : whole l = true) : l ≠ [] := by
  unfold whole at h; rw [Bool.and_eq_true, Bool.and_eq_true] at h
  simpa using h.1.1
def fixBody (k : Nat) (n : Int) : List UInt8 := (padTo (k + 1) (Lib.decDigits n.natAbs)).take ((padTo (k + 1) (Lib.decDigits n.natAbs)).length - k) ++ 46 :: (padTo (k + 1) (Lib.decDigits n.natAbs)).drop ((padTo (k + 1) (Lib.decDigits n.natAbs)).length - k)
theorem fixL_eq {k : Nat} (hk : ¬ k = 0) (n : Int) : fixL k n = if n < 0 then 45 :: fixBody k n else fixBody k n := by
  unfold fixL fixBody
  rw [if_neg hk]
  by_cases h : n < 0
  · rw [if_pos h, if_pos h]; rfl
  · rw [if_neg h, if_neg h]; rfl
theorem body_parts (k : Nat) (u : Nat) : ∃ a b, padTo (k + 1) (Lib.decDigits u) = a ++ b ∧ b.length = k ∧ whole a = true ∧ digs b = true ∧ a = (padTo (k + 1) (Lib.decDigits u)).take ((padTo (k + 1) (Lib.decDigits u)).length - k) ∧ b = (padTo (k + 1) (Lib.decDigits u)).drop ((padTo (k + 1) (Lib.decDigits u)).length - k) := by
  obtain ⟨p, hp⟩ : ∃ p, padTo (k + 1) (Lib.decDigits u) = p := ⟨_, rfl⟩
  have hl : p.length = max (k + 1) (Lib.decDigits u).length := by rw [← hp, pad_length]
  have hd : digs p = true := by rw [← hp, digs_pad, dec_digs]
  rw [hp]
  refine ⟨p.take (p.length - k), p.drop (p.length - k), (List.take_append_drop _ _).symm, by simp; omega, ?_, ?_, rfl, rfl⟩
  · have hda : digs (p.take (p.length - k)) = true := by
      have := hd; rw [← List.take_append_drop (p.length - k) p, digs_app, Bool.and_eq_true] at this; exact this.1
    unfold whole
    rw [hda, Bool.and_true, Bool.and_eq_true]
    have hlen : (p.take (p.length - k)).length = p.length - k := by simp
    refine ⟨by
      have : p.take (p.length - k) ≠ [] := fun e => by rw [e] at hlen; simp at hlen; omega
      simp [this], ?_⟩
    rcases Nat.lt_or_ge (k + 1) (Lib.decDigits u).length with g | g
    · have h0 : 1 ≤ u := by
        rcases Nat.eq_zero_or_pos u with z | z
        · subst z; rw [dec_small (by decide)] at g; simp at g
        · exact z
      have hpe : p = Lib.decDigits u := by
        rw [← hp]; unfold padTo; rw [show k + 1 - (Lib.decDigits u).length = 0 by omega]; rfl
      have : (p.take (p.length - k)).head? ≠ some 48 := by
        rw [List.head?_take, if_neg (by omega), hpe]; exact dec_head u h0
      simp [this]
    · have h1 : p.length - k = 1 := by omega
      rw [h1] at hlen ⊢
      obtain ⟨c, hc⟩ : ∃ c, p.take 1 = [c] := List.length_eq_one_iff.1 hlen
      rw [hc]
      by_cases e : c = 48
      · subst e; rfl
      · simp
  · have := hd; rw [← List.take_append_drop (p.length - k) p, digs_app, Bool.and_eq_true] at this; exact this.2
theorem whole_minus {l r : List UInt8} (h : whole l = true) : minus (l ++ r) = false := by
  cases l with
  | nil => exact absurd rfl (whole_ne h)
  | cons c t =>
    have hd := whole_digs' h
    simp only [digs, List.all_cons, Bool.and_eq_true] at hd
    have := (dig_iff c).1 hd.1
    have h45 : ¬ c = 45 := fun e => by rw [e] at this; have : (45 : UInt8).toNat = 45 := rfl; omega
    simp [minus, h45]
theorem body_minus (k : Nat) (n : Int) : minus (fixBody k n) = false := by
  obtain ⟨a, b, h1, h2, h3, h4, h5, h6⟩ := body_parts k n.natAbs
  unfold fixBody; rw [← h5]; exact whole_minus h3
theorem minus_fix {k : Nat} (hk : ¬ k = 0) (n : Int) : minus (fixL k n) = decide (n < 0) := by
  rw [fixL_eq hk]
  by_cases h : n < 0
  · rw [if_pos h]; simp [minus, h]
  · rw [if_neg h, body_minus]; simp [h]
theorem unsigned_fix {k : Nat} (hk : ¬ k = 0) (n : Int) : unsigned (fixL k n) = fixBody k n := by
  unfold unsigned
  rw [minus_fix hk, fixL_eq hk]
  by_cases h : n < 0
  · simp [h]
  · simp [h]
theorem parseF_fix (k : Nat) (n : Int) : parseF k (fixL k n) = back n := by
  by_cases hk : k = 0
  · subst hk; unfold parseF fixL; simp only [if_true]; exact parseI_itoa n
  · unfold parseF
    rw [if_neg hk, unsigned_fix hk, minus_fix hk]
    obtain ⟨a, b, h1, h2, h3, h4, h5, h6⟩ := body_parts k n.natAbs
    have e : fixBody k n = a ++ 46 :: b := by unfold fixBody; rw [← h5, ← h6]
    rw [e, cutDot_at (digs_nodot (whole_digs' h3))]
    simp only [h3, h4, h2, decide_true, Bool.and_true, if_true]
    rw [← h1, val_pad, dec_val, sgn_abs]
theorem parseF_ok {k : Nat} {l : List UInt8} {a : Int} (h : parseF k l = (a, 0)) : fixL k a = l := by
  by_cases hk : k = 0
  · subst hk
    unfold parseF at h; unfold fixL
    simp only [if_true] at h ⊢
    exact parseI_ok h
  · unfold parseF at h
    rw [if_neg hk] at h
    split at h
    · rename_i hc
      simp only [Bool.and_eq_true, decide_eq_true_eq] at hc
      obtain ⟨⟨⟨c1, c2⟩, c3⟩, c4⟩ := hc
      obtain ⟨h1, h2⟩ := sgn_ok h
      rcases cutDot_spec (unsigned l) with ⟨_, e⟩ | ⟨x, y, e1, e2, e3⟩
      · rw [e] at c1; simp at c1
      · rw [e3] at c2 c3 c4 h1
        simp only at c2 c3 c4 h1
        have hp : padTo (k + 1) (Lib.decDigits a.natAbs) = x ++ y := by
          rw [h1]
          have hd : digs (x ++ y) = true := by rw [digs_app, whole_digs' c2, c4]; rfl
          have hne : x ++ y ≠ [] := by simp [whole_ne c2]
          rcases Nat.lt_or_ge 1 x.length with g | g
          · have hwx : whole (x ++ y) = true := by
              cases x with
              | nil => simp at g
              | cons c t =>
                unfold whole at c2 ⊢
                rw [hd, Bool.and_true, Bool.and_eq_true]
                refine ⟨by simp, ?_⟩
                rw [Bool.and_eq_true, Bool.and_eq_true] at c2
                have h48 := c2.1.2
                have ht : t ≠ [] := fun e => by subst e; simp at g
                by_cases hc : c = 48
                · subst hc; simp [ht] at h48
                · simp [hc]
            rw [whole_dec hwx]
            unfold padTo
            rw [show k + 1 - (x ++ y).length = 0 by simp; omega]; rfl
          · have hx1 : x.length = 1 := by
              have := List.length_pos_iff.2 (whole_ne c2); omega
            have := (pad_dec (x ++ y) hne hd).1
            rw [show (x ++ y).length = k + 1 by simp; omega] at this
            exact this
        have hb : fixBody k a = unsigned l := by
          unfold fixBody
          rw [hp, show (x ++ y).length - k = x.length by simp; omega, e1]
          simp
        rw [fixL_eq hk, hb]
        have hl := unsigned_back l
        rw [← h2] at hl
        by_cases hn : a < 0
        · rw [if_pos hn]; rw [decide_eq_true hn, if_pos rfl] at hl; exact hl.symm
        · rw [if_neg hn]; rw [decide_eq_false hn] at hl; exact hl.symm
    · simp at h
end Go.Proofs.YtjjnlihokcddbaaDoor.num
