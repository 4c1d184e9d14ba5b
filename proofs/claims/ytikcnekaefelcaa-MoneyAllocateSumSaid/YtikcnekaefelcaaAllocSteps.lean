/-
  Plain mathematics: handing out the cents that are left, one by one, each to the greatest rest.
-/
import Derived.Test.YtikcnekaefelcaaAlloc
import Derived.Test.YtikcnekaefelcaaMoneyGreatest
namespace Go.Proofs.Ytikcnekaefelcaa.alloc
open Go.Proofs.Ytikcnekaefelcaa.rank Go.Proofs.Ytikcnekaefelcaa.money
set_option linter.unusedVariables false

def outsAt (a S : Int) (ws : List Int) (t : Nat) : List Int := (List.range ws.length).map fun i => base a S (ws.getD i 0) + if rank (rests a S ws) i < t then 1 else 0
def restsAt (a S : Int) (ws : List Int) (t : Nat) : List Int := (List.range ws.length).map fun i => if rank (rests a S ws) i < t then 0 else (rests a S ws).getD i 0

theorem outsAt_length (a S : Int) (ws : List Int) (t : Nat) : (outsAt a S ws t).length = ws.length := by simp [outsAt]
theorem restsAt_length (a S : Int) (ws : List Int) (t : Nat) : (restsAt a S ws t).length = ws.length := by simp [restsAt]
theorem outsAt_at {a S : Int} {ws : List Int} {t i : Nat} (hi : i < ws.length) : (outsAt a S ws t)[i]? = some (base a S (ws.getD i 0) + if rank (rests a S ws) i < t then 1 else 0) := by
  simp [outsAt, hi]
theorem restsAt_at {a S : Int} {ws : List Int} {t i : Nat} (hi : i < ws.length) : (restsAt a S ws t)[i]? = some (if rank (rests a S ws) i < t then 0 else (rests a S ws).getD i 0) := by
  simp [restsAt, hi]
theorem restsAt_getD {a S : Int} {ws : List Int} {t i : Nat} (hi : i < ws.length) : (restsAt a S ws t).getD i 0 = if rank (rests a S ws) i < t then 0 else (rests a S ws).getD i 0 := by
  rw [List.getD, restsAt_at hi]; rfl
theorem outsAt_zero (a S : Int) (ws : List Int) : outsAt a S ws 0 = ws.map (base a S) := by
  rw [← map_getD (base a S)]; unfold outsAt
  refine List.map_congr_left fun i _ => ?_
  rw [if_neg (by omega)]; omega
theorem restsAt_zero (a S : Int) (ws : List Int) : restsAt a S ws 0 = rests a S ws := by
  rw [← rests_map]; unfold restsAt
  refine List.map_congr_left fun i _ => ?_
  rw [if_neg (by omega)]
theorem outsAt_left {a S : Int} {ws : List Int} {L : Nat} (h : left a S ws = L) : outsAt a S ws L = shares a S ws := by
  unfold outsAt shares
  refine List.map_congr_left fun i _ => ?_
  unfold shareAt bonus
  rw [h]
  by_cases g : rank (rests a S ws) i < L
  · rw [if_pos g, if_pos (by omega)]
  · rw [if_neg g, if_neg (by omega)]
theorem rest_pos {a S : Int} {ws : List Int} (hS : tot ws = S) (h0 : 0 < S) {i : Nat} (hi : i < ws.length) (h : (rank (rests a S ws) i : Int) < left a S ws) : 0 < (rests a S ws).getD i 0 := by
  rcases Int.lt_or_le 0 ((rests a S ws).getD i 0) with g | g
  · exact g
  · exfalso
    have hlen : (rests a S ws).length = ws.length := by simp [rests]
    have hc : ((List.range ws.length).filter fun j => decide (0 < (rests a S ws).getD j 0)).length ≤ rank (rests a S ws) i := by
      unfold rank
      rw [hlen]
      refine filter_le (fun j _ hj => ?_)
      rw [better_iff]
      have hj : 0 < (rests a S ws).getD j 0 := by simpa using hj
      exact .inl (by omega)
    have hle := tot_le_count (fun j => (rests a S ws).getD j 0) (S - 1) (List.range ws.length) (fun j hj => by
      have hj := List.mem_range.1 hj
      show (rests a S ws).getD j 0 ≤ S - 1
      rw [rests_getD hj]
      have := rest_bounds a h0 (ws.getD j 0); omega)
    rw [rests_map, ← left_rests (a := a) hS] at hle
    obtain ⟨c, hcc⟩ : ∃ c, ((List.range ws.length).filter fun j => decide (0 < (rests a S ws).getD j 0)).length = c := ⟨_, rfl⟩
    rw [hcc] at hc hle
    have h1 : (c : Int) * (S - 1) ≤ (left a S ws - 1) * (S - 1) := Int.mul_le_mul_of_nonneg_right (by omega) (by omega)
    have h2 : (left a S ws - 1) * (S - 1) = S * left a S ws - left a S ws - (S - 1) := by
      rw [Int.sub_mul, Int.mul_sub, Int.mul_comm (left a S ws) S]; simp
    omega
/-- the greatest of the rests that are still there is the next in order -/
theorem best_next {a S : Int} {ws : List Int} (hS : tot ws = S) (h0 : 0 < S) {t : Nat} (ht : (t : Int) < left a S ws) {c : Int} (h : Best (restsAt a S ws t) ws.length c) :
    ∃ k : Nat, c = k ∧ k < ws.length ∧ rank (rests a S ws) k = t := by
  have hlen : (rests a S ws).length = ws.length := by simp [rests]
  have hll := left_lt (a := a) hS h0
  obtain ⟨i, hi, hr⟩ := rank_onto (r := rests a S ws) (t := t) (by rw [hlen]; omega)
  rw [hlen] at hi
  have hp := rest_pos (a := a) hS h0 hi (by rw [hr]; exact ht)
  have hgi : (restsAt a S ws t).getD i 0 = (rests a S ws).getD i 0 := by rw [restsAt_getD hi, if_neg (by omega)]
  rcases h with ⟨_, h⟩ | ⟨k, hk, rfl, hpos, h⟩
  · have := h i hi; omega
  · refine ⟨k, rfl, hk, ?_⟩
    have hkt : ¬ rank (rests a S ws) k < t := fun g => by
      rw [restsAt_getD hk, if_pos g] at hpos; omega
    have hgk : (restsAt a S ws t).getD k 0 = (rests a S ws).getD k 0 := by rw [restsAt_getD hk, if_neg hkt]
    rcases Nat.lt_or_ge t (rank (rests a S ws) k) with g | g
    · have hb := (rank_better (r := rests a S ws) (i := k) (j := i) (by omega) (by omega)).2 (by omega)
      have hn := h i hi
      rw [better_no, hgi, hgk] at hn
      rw [better_iff] at hb
      omega
    · omega
theorem outsAt_step {a S : Int} {ws : List Int} {t k : Nat} (hk : k < ws.length) (hr : rank (rests a S ws) k = t) {z : Int} (hz : (outsAt a S ws t)[k]? = some z) : (outsAt a S ws t).set k (z + 1) = outsAt a S ws (t + 1) := by
  have hlen : (rests a S ws).length = ws.length := by simp [rests]
  rw [outsAt_at hk, hr, if_neg (by omega)] at hz
  simp at hz
  subst hz
  apply List.ext_getElem?
  intro i
  rw [List.getElem?_set]
  by_cases e : k = i
  · subst e
    rw [if_pos rfl, if_pos (by rw [outsAt_length]; exact hk), outsAt_at hk, hr, if_pos (by omega)]; rfl
  · rw [if_neg e]
    by_cases hi : i < ws.length
    · rw [outsAt_at hi, outsAt_at hi]
      have : rank (rests a S ws) i ≠ t := fun g => e (rank_inj (r := rests a S ws) (by omega) (by omega) (by omega))
      by_cases g : rank (rests a S ws) i < t
      · rw [if_pos g, if_pos (by omega)]
      · rw [if_neg g, if_neg (by omega)]
    · rw [List.getElem?_eq_none (by rw [outsAt_length]; omega), List.getElem?_eq_none (by rw [outsAt_length]; omega)]
theorem restsAt_step {a S : Int} {ws : List Int} {t k : Nat} (hk : k < ws.length) (hr : rank (rests a S ws) k = t) : (restsAt a S ws t).set k 0 = restsAt a S ws (t + 1) := by
  have hlen : (rests a S ws).length = ws.length := by simp [rests]
  apply List.ext_getElem?
  intro i
  rw [List.getElem?_set]
  by_cases e : k = i
  · subst e
    rw [if_pos rfl, if_pos (by rw [restsAt_length]; exact hk), restsAt_at hk, hr, if_pos (by omega)]
  · rw [if_neg e]
    by_cases hi : i < ws.length
    · rw [restsAt_at hi, restsAt_at hi]
      have : rank (rests a S ws) i ≠ t := fun g => e (rank_inj (r := rests a S ws) (by omega) (by omega) (by omega))
      by_cases g : rank (rests a S ws) i < t
      · rw [if_pos g, if_pos (by omega)]
      · rw [if_neg g, if_neg (by omega)]
    · rw [List.getElem?_eq_none (by rw [restsAt_length]; omega), List.getElem?_eq_none (by rw [restsAt_length]; omega)]

/-- the first i numbers with their signs turned -/
def negTo (l : List Int) (i : Nat) : List Int := (l.take i).map (fun x => -x) ++ l.drop i
theorem negTo_length (l : List Int) (i : Nat) : (negTo l i).length = l.length := by simp [negTo]; omega
theorem negTo_zero (l : List Int) : negTo l 0 = l := by simp [negTo]
theorem negTo_all (l : List Int) : negTo l l.length = l.map fun x => -x := by simp [negTo]
theorem negTo_at {l : List Int} {i : Nat} {z : Int} (h : l[i]? = some z) : (negTo l i)[i]? = some z := by
  obtain ⟨hl, he⟩ := List.getElem?_eq_some_iff.1 h
  unfold negTo
  rw [List.getElem?_append_right (by simp; omega)]
  simp only [List.length_map, List.length_take]
  rw [List.getElem?_drop, show i + (i - min i l.length) = i by omega, h]
theorem negTo_step {l : List Int} {i : Nat} {z : Int} (h : l[i]? = some z) : (negTo l i).set i (-z) = negTo l (i + 1) := by
  obtain ⟨hl, he⟩ := List.getElem?_eq_some_iff.1 h
  unfold negTo
  rw [List.set_append_right _ _ (by simp; omega)]
  simp only [List.length_map, List.length_take]
  rw [show i - min i l.length = 0 by omega, List.drop_eq_getElem_cons hl, List.set_cons_zero, List.take_add_one, List.map_append, h]
  simp

/-- the cents that the shares take up, one by one -/
def taken (a S : Int) (ws : List Int) (i : Nat) : Int := a - tot ((ws.take i).map (base a S))
theorem taken_zero (a S : Int) (ws : List Int) : taken a S ws 0 = a := by simp [taken, tot]
theorem taken_step {a S : Int} {ws : List Int} {i : Nat} {z : Int} (h : ws[i]? = some z) : taken a S ws (i + 1) = taken a S ws i - base a S z := by
  unfold taken
  rw [List.take_add_one, h, List.map_append, tot_app]
  simp [tot]; omega
theorem taken_all (a S : Int) (ws : List Int) : taken a S ws ws.length = left a S ws := by simp [taken, left]
theorem tot_step {ws : List Int} {i : Nat} {z : Int} (h : ws[i]? = some z) : tot (ws.take (i + 1)) = tot (ws.take i) + z := by
  rw [List.take_add_one, h, tot_app]; simp [tot]
theorem map_step {f : Int → Int} {ws : List Int} {i : Nat} {z : Int} (h : ws[i]? = some z) : (ws.take (i + 1)).map f = (ws.take i).map f ++ [f z] := by
  rw [List.take_add_one, h, List.map_append]; rfl
theorem tot_take_le {ws : List Int} (h : ∀ x ∈ ws, 0 ≤ x) (i : Nat) : tot (ws.take i) ≤ tot ws := by
  have e : tot ws = tot (ws.take i) + tot (ws.drop i) := by rw [← tot_app, List.take_append_drop]
  have := tot_nonneg (l := ws.drop i) (fun x hx => h x (List.mem_of_mem_drop hx))
  omega
theorem base_le {a S w : Int} (ha : 0 ≤ a) (hS : 0 < S) (hw : w ≤ S) : base a S w ≤ a := by
  unfold base
  have h : a * w ≤ a * S := Int.mul_le_mul_of_nonneg_left hw ha
  have := Int.ediv_le_ediv hS h
  rwa [Int.mul_ediv_cancel _ (by omega)] at this
theorem split_base {a S w : Int} (hS : 0 < S) : a % S * w / S + a / S * w = base a S w ∧ a % S * w % S = rest a S w := by
  unfold base rest
  have e : a * w = a % S * w + S * (a / S * w) := by
    have h := Int.mul_ediv_add_emod a S
    have h2 : (S * (a / S) + a % S) * w = a * w := by rw [h]
    rw [← h2, Int.add_mul, Int.mul_assoc]; omega
  rw [e]
  refine ⟨?_, ?_⟩
  · rw [Int.add_mul_ediv_left _ _ (by omega)]
  · rw [Int.add_mul_emod_self_left]
end Go.Proofs.Ytikcnekaefelcaa.alloc
