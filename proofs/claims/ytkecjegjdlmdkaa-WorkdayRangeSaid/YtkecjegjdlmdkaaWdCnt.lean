/-
  Plain mathematics of the landed Count: the days of each weekday, less the holidays among them.
-/
import Derived.Test.YtkecjegjdlmdkaaWdMineB
namespace Go.Proofs.Ytkecjegjdlmdkaa.wd
set_option linter.unusedVariables false

def sumR (wk a b : Int) : Nat → Int
  | 0 => 0
  | k + 1 => sumR wk a b k + if weR wk k then 0 else befR b k - befR a k
def holR (wk a b : Int) : List Int → Int
  | [] => 0
  | x :: l => (if (a ≤ x ∧ x < b) ∧ weR wk x = false then 1 else 0) + holR wk a b l

theorem we_mod {wk b : Int} {k : Nat} (h : b % 7 = k) : weR wk (k : Int) = weR wk b := by
  unfold weR; rw [show (k : Int) % 7 = b % 7 by omega]
theorem sum_step (wk a b : Int) (hb : 0 ≤ b) : ∀ k : Nat, k ≤ 7 → sumR wk a (b + 1) k = sumR wk a b k + if b % 7 < k ∧ weR wk b = false then 1 else 0
  | 0, _ => by rw [if_neg (by omega)]; rfl
  | k + 1, hk => by
    rw [sumR, sumR, sum_step wk a b hb k (by omega)]
    by_cases e : b % 7 = k
    · rw [we_mod e, if_neg (by omega)]
      cases weR wk b
      · rw [if_neg (by decide), if_neg (by decide), if_pos ⟨by omega, rfl⟩]
        have : befR (b + 1) k = befR b k + 1 := by unfold befR; omega
        omega
      · have : befR (b + 1) k = befR b k + 1 := by unfold befR; omega
        simp
    · have : befR (b + 1) k = befR b k := by unfold befR; omega
      rw [this]
      have q : (b % 7 < ((k + 1 : Nat) : Int) ∧ weR wk b = false) ↔ (b % 7 < (k : Int) ∧ weR wk b = false) := by
        constructor
        · rintro ⟨h1, h2⟩; exact ⟨by omega, h2⟩
        · rintro ⟨h1, h2⟩; exact ⟨by omega, h2⟩
      simp only [q]
      omega
theorem hol_step (wk a b : Int) (hab : a ≤ b) : ∀ {l : List Int} {p : Int}, upR p l = true → holR wk a (b + 1) l = holR wk a b l + if l.contains b = true ∧ weR wk b = false then 1 else 0
  | [], p, _ => by simp [holR]
  | x :: l, p, h => by
    simp only [upR, Bool.and_eq_true, decide_eq_true_eq] at h
    rw [holR, holR, hol_step wk a b hab h.2]
    by_cases e : x = b
    · subst e
      have hn : l.contains x = false := by
        rw [Bool.eq_false_iff]
        intro hc
        simp only [List.contains_iff_mem] at hc
        obtain ⟨t, ht⟩ := List.mem_iff_getElem?.1 hc
        have := (up_gt h.2 ht).1
        omega
      have hy : (x :: l).contains x = true := by simp
      rw [hn, hy]
      cases weR wk x
      · rw [if_pos ⟨⟨hab, by omega⟩, rfl⟩, if_neg (by simp), if_neg (by rintro ⟨⟨_, g⟩, _⟩; omega), if_pos ⟨rfl, rfl⟩]; omega
      · simp
    · have hc : (x :: l).contains b = l.contains b := by
        rw [List.contains_cons, show (b == x) = false by simp; exact fun h => e h.symm, Bool.false_or]
      rw [hc]
      have q : ((a ≤ x ∧ x < b + 1) ∧ weR wk x = false) ↔ ((a ≤ x ∧ x < b) ∧ weR wk x = false) := by
        constructor
        · rintro ⟨⟨h1, h3⟩, h2⟩; exact ⟨⟨h1, by omega⟩, h2⟩
        · rintro ⟨⟨h1, h3⟩, h2⟩; exact ⟨⟨h1, by omega⟩, h2⟩
      simp only [q]
      omega
theorem hol_none (wk a : Int) : ∀ l : List Int, holR wk a a l = 0
  | [] => rfl
  | x :: l => by rw [holR, hol_none wk a l, if_neg (by omega)]; rfl
theorem sum_none (wk a : Int) : ∀ k : Nat, sumR wk a a k = 0
  | 0 => rfl
  | k + 1 => by rw [sumR, sum_none wk a k]; split <;> omega
theorem cnt_sum {wk : Int} {hs : List Int} (hc : calR wk hs = true) (a : Int) (ha : 0 ≤ a) : ∀ k : Nat, a + k ≤ 109573 → cntFrom wk hs k a = sumR wk a (a + k) 7 - holR wk a (a + k) hs
  | 0, _ => by simp [cntFrom, sum_none, hol_none]
  | k + 1, h => by
    have hd : dayR (a + k) = true := (day_iff _).2 ⟨by omega, by omega⟩
    rw [cnt_last, cnt_sum hc a ha k (by omega), show a + ((k + 1 : Nat) : Int) = a + k + 1 by omega, sum_step _ _ _ (by omega) 7 (Nat.le_refl _), hol_step wk a (a + k) (by omega) (cal_parts hc).2.2.2, wd_of hc hd]
    have m7 : (a + (k : Int)) % 7 < ((7 : Nat) : Int) := by omega
    cases weR wk (a + k)
    · cases hs.contains (a + k)
      · rw [if_pos (by decide), if_pos ⟨m7, rfl⟩, if_neg (by simp)]; omega
      · rw [if_neg (by decide), if_pos ⟨m7, rfl⟩, if_pos ⟨rfl, rfl⟩]; omega
    · simp
theorem cntR_sum {wk : Int} {hs : List Int} {a b : Int} (hc : calR wk hs = true) (hb : spanR a b = true) : cntR wk hs a b = sumR wk a b 7 - holR wk a b hs := by
  unfold cntR
  rw [hc, hb, Bool.and_self, if_pos rfl]
  unfold spanR at hb
  simp only [Bool.and_eq_true, decide_eq_true_eq] at hb
  have := cnt_sum hc a hb.1 (b - a).toNat (by omega)
  rw [show a + (((b - a).toNat : Nat) : Int) = b by omega] at this
  exact this
theorem sum_bounds (wk : Int) {a b : Int} (h0 : 0 ≤ a) (h1 : a ≤ b) (h2 : b ≤ 109573) : ∀ k : Nat, k ≤ 7 → 0 ≤ sumR wk a b k ∧ sumR wk a b k ≤ 15654 * k
  | 0, _ => by simp [sumR]
  | k + 1, hk => by
    have := sum_bounds wk h0 h1 h2 k (by omega)
    have hf : 0 ≤ befR b k - befR a k ∧ befR b k - befR a k ≤ 15654 := by unfold befR; omega
    rw [sumR]
    split <;> omega
theorem hol_bounds (wk a b : Int) : ∀ l : List Int, 0 ≤ holR wk a b l ∧ holR wk a b l ≤ l.length
  | [] => by simp [holR]
  | x :: l => by
    have := hol_bounds wk a b l
    rw [holR, List.length_cons]
    split <;> omega
end Go.Proofs.Ytkecjegjdlmdkaa.wd
