/-
  Plain mathematics of package workday: what its functions answer. No program text.
-/
import Derived.WalkKit
namespace Go.Proofs.Ytkecjegjdlmdkaa.wd
set_option linter.unusedVariables false

def dayR (d : Int) : Bool := decide (0 ≤ d) && decide (d ≤ 109572)
/-- increasing dates, all behind p -/
def upR : Int → List Int → Bool
  | _, [] => true
  | p, x :: l => decide (p < x) && decide (x ≤ 109572) && upR x l
def calR (wk : Int) (hs : List Int) : Bool := decide (0 ≤ wk) && decide (wk ≤ 126) && decide (hs.length ≤ 64) && upR (-1) hs
def bitR (wk : Int) : Nat → Int
  | 0 => wk
  | k + 1 => bitR (wk / 2) k
def wdR (wk : Int) (hs : List Int) (d : Int) : Bool := calR wk hs && dayR d && !(hs.contains d) && decide (bitR wk (d % 7).toNat % 2 = 0)
def nextFrom (wk : Int) (hs : List Int) : Nat → Int → Int × Int
  | 0, d => (0, 6)
  | k + 1, d => if wdR wk hs d then (d, 0) else nextFrom wk hs k (d + 1)
def nextR (wk : Int) (hs : List Int) (d : Int) : Int × Int :=
  if !calR wk hs then (0, 1) else if !dayR d then (0, 3) else nextFrom wk hs (109573 - d).toNat d
def addFrom (wk : Int) (hs : List Int) : Nat → Int → Int → Int × Int
  | 0, d, n => (0, 6)
  | k + 1, d, n => if wdR wk hs (d + 1) then (if n = 1 then (d + 1, 0) else addFrom wk hs k (d + 1) (n - 1)) else addFrom wk hs k (d + 1) n
def addR (wk : Int) (hs : List Int) (d n : Int) : Int × Int :=
  if !calR wk hs then (0, 1) else if !dayR d || decide (n < 0) || decide (365 < n) then (0, 3) else if n = 0 then nextR wk hs d else addFrom wk hs (109572 - d).toNat d n
def cntFrom (wk : Int) (hs : List Int) : Nat → Int → Int
  | 0, d => 0
  | k + 1, d => (if wdR wk hs d then 1 else 0) + cntFrom wk hs k (d + 1)
def spanR (a b : Int) : Bool := decide (0 ≤ a) && (decide (a ≤ b) && decide (b ≤ 109573))
def cntR (wk : Int) (hs : List Int) (a b : Int) : Int := if calR wk hs && spanR a b then cntFrom wk hs (b - a).toNat a else 0

theorem day_iff (d : Int) : dayR d = true ↔ 0 ≤ d ∧ d ≤ 109572 := by simp [dayR]
theorem cnt_bounds (wk : Int) (hs : List Int) : ∀ (k : Nat) (d : Int), 0 ≤ cntFrom wk hs k d ∧ cntFrom wk hs k d ≤ k
  | 0, d => by simp [cntFrom]
  | k + 1, d => by
    have := cnt_bounds wk hs k (d + 1)
    unfold cntFrom
    split <;> omega
theorem cnt_add (wk : Int) (hs : List Int) : ∀ (j k : Nat) (d : Int), cntFrom wk hs (j + k) d = cntFrom wk hs j d + cntFrom wk hs k (d + j)
  | 0, k, d => by simp [cntFrom]
  | j + 1, k, d => by
    rw [show j + 1 + k = (j + k) + 1 by omega, cntFrom, cntFrom, cnt_add wk hs j k (d + 1), show d + 1 + (j : Int) = d + ((j + 1 : Nat) : Int) by omega]
    omega
theorem cnt_last (wk : Int) (hs : List Int) (k : Nat) (d : Int) : cntFrom wk hs (k + 1) d = cntFrom wk hs k d + if wdR wk hs (d + k) then 1 else 0 := by
  rw [cnt_add wk hs k 1 d]; simp [cntFrom]
/-- two adjacent spans -/
theorem cntR_add {wk : Int} {hs : List Int} {a b c : Int} (h0 : 0 ≤ a) (h1 : a ≤ b) (h2 : b ≤ c) (h3 : c ≤ 109573) : cntR wk hs a b + cntR wk hs b c = cntR wk hs a c := by
  have s1 : spanR a b = true := by simp [spanR]; omega
  have s2 : spanR b c = true := by simp [spanR]; omega
  have s3 : spanR a c = true := by simp [spanR]; omega
  unfold cntR
  rw [s1, s2, s3]
  cases calR wk hs
  · rfl
  · simp only [Bool.and_self, if_true]
    rw [show (c - a).toNat = (b - a).toNat + (c - b).toNat by omega, cnt_add, show a + (((b - a).toNat : Nat) : Int) = b by omega]
theorem wd_cal {wk : Int} {hs : List Int} {d : Int} (h : wdR wk hs d = true) : calR wk hs = true ∧ dayR d = true := by
  unfold wdR at h; simp only [Bool.and_eq_true] at h; exact ⟨h.1.1.1, h.1.1.2⟩
theorem nextFrom_ok {wk : Int} {hs : List Int} : ∀ {k : Nat} {d x : Int}, nextFrom wk hs k d = (x, 0) → wdR wk hs x = true
  | 0, d, x, h => by simp [nextFrom] at h
  | k + 1, d, x, h => by
    unfold nextFrom at h
    split at h
    · rename_i g; cases h; exact g
    · exact nextFrom_ok h
theorem nextR_ok {wk : Int} {hs : List Int} {d x : Int} (h : nextR wk hs d = (x, 0)) : wdR wk hs x = true := by
  unfold nextR at h
  split at h
  · cases h
  · split at h
    · cases h
    · exact nextFrom_ok h
/-- Next of a working day is that day -/
theorem nextR_at {wk : Int} {hs : List Int} {d : Int} (h : wdR wk hs d = true) : nextR wk hs d = (d, 0) := by
  obtain ⟨h1, h2⟩ := wd_cal h
  have h3 := (day_iff d).1 h2
  unfold nextR
  rw [h1, h2, if_neg (by decide), if_neg (by decide), show (109573 - d).toNat = (109572 - d).toNat + 1 by omega, nextFrom, h, if_pos rfl]
theorem addFrom_ok {wk : Int} {hs : List Int} : ∀ {k : Nat} {d n x : Int}, addFrom wk hs k d n = (x, 0) → 1 ≤ n → ∃ j : Nat, x = d + 1 + j ∧ j < k ∧ wdR wk hs x = true ∧ cntFrom wk hs (j + 1) (d + 1) = n
  | 0, d, n, x, h, _ => by simp [addFrom] at h
  | k + 1, d, n, x, h, hn => by
    unfold addFrom at h
    split at h
    · rename_i g
      split at h
      · rename_i g2
        cases h
        exact ⟨0, by simp, by omega, g, by simp [cntFrom, g, g2]⟩
      · obtain ⟨j, hx, hj, hw, hc⟩ := addFrom_ok h (by omega)
        refine ⟨j + 1, by omega, by omega, hw, ?_⟩
        rw [cntFrom, g, if_pos rfl, hc]; omega
    · rename_i g
      obtain ⟨j, hx, hj, hw, hc⟩ := addFrom_ok h hn
      refine ⟨j + 1, by omega, by omega, hw, ?_⟩
      rw [cntFrom, if_neg g, hc]; omega
/-- the n-th working day: it is one, and n of them lie up to it -/
theorem addR_ok {wk : Int} {hs : List Int} {d n x : Int} (h : addR wk hs d n = (x, 0)) (hn : 1 ≤ n) : d < x ∧ 0 ≤ d ∧ x ≤ 109572 ∧ wdR wk hs x = true ∧ cntR wk hs (d + 1) (x + 1) = n := by
  unfold addR at h
  split at h
  · cases h
  · rename_i g1
    split at h
    · cases h
    · rename_i g2
      rw [if_neg (by omega)] at h
      obtain ⟨j, hx, hj, hw, hc⟩ := addFrom_ok h hn
      simp only [Bool.or_eq_true, Bool.not_eq_true', decide_eq_true_eq, not_or] at g2
      have h3 := (day_iff d).1 (by simpa using g2.1.1)
      have h4 := (day_iff x).1 (wd_cal hw).2
      refine ⟨by omega, h3.1, h4.2, hw, ?_⟩
      have s : spanR (d + 1) (x + 1) = true := by simp [spanR]; omega
      unfold cntR
      rw [s, (wd_cal hw).1, Bool.and_self, if_pos rfl, show (x + 1 - (d + 1)).toNat = j + 1 by omega, hc]
theorem addR_range {wk : Int} {hs : List Int} {d n x : Int} (h : addR wk hs d n = (x, 0)) : 0 ≤ n ∧ n ≤ 365 := by
  unfold addR at h
  split at h
  · cases h
  · split at h
    · cases h
    · rename_i g2
      simp only [Bool.or_eq_true, decide_eq_true_eq, not_or] at g2
      omega
end Go.Proofs.Ytkecjegjdlmdkaa.wd
