/-
  Plain mathematics: numbers put in order by rests hold at place t the one of rank t; the order as a stable sort sees it.
-/
import Derived.Test.YtikcnekaefelcaaRank
import Derived.Test.YtikcnekaefelcaaStable
import Derived.Shelf.SlSortCmp.Insertion
namespace Go.Proofs.Ytikcnekaefelcaa.order
open Go.Proofs.Ytikcnekaefelcaa.rank Go.Proofs.Ytikcnekaefelcaa.stable Go.Sort
set_option linter.unusedVariables false

theorem rank_of_order {r : List Int} {f : Nat → Nat} (hf : ∀ t, t < r.length → f t < r.length) (ho : ∀ s t, s < t → t < r.length → better r (f s) (f t) = true) {t : Nat} (ht : t < r.length) : rank r (f t) = t := by
  have hne : ∀ s t, s < t → t < r.length → f s ≠ f t := fun s t h1 h2 e => by
    have := ho s t h1 h2
    rw [e, better_irrefl] at this; cases this
  have hn : ((List.range r.length).map f).Nodup := by
    rw [List.Nodup, List.pairwise_map]
    refine List.Pairwise.imp_of_mem ?_ List.pairwise_lt_range
    intro a b ha hb hab
    exact hne a b hab (List.mem_range.1 hb)
  have hsub : ∀ x ∈ (List.range r.length).map f, x ∈ List.range r.length := by
    intro x hx
    obtain ⟨i, hi, rfl⟩ := List.mem_map.1 hx
    exact List.mem_range.2 (hf i (List.mem_range.1 hi))
  have hp : ((List.range r.length).map f).Perm (List.range r.length) := by
    rw [List.perm_ext_iff_of_nodup hn List.nodup_range]
    intro x
    refine ⟨hsub x, fun hx => ?_⟩
    rcases Decidable.em (x ∈ (List.range r.length).map f) with h | h
    · exact h
    · have hn2 : (x :: (List.range r.length).map f).Nodup := List.nodup_cons.2 ⟨h, hn⟩
      have := List.Nodup.length_le_of_subset hn2 (l₂ := List.range r.length) (by
        intro z hz
        rcases List.mem_cons.1 hz with rfl | hz
        · exact hx
        · exact hsub z hz)
      simp at this
      omega
  have e1 : rank r (f t) = (((List.range r.length).map f).filter fun j => better r j (f t)).length := by
    unfold rank
    exact ((hp.filter _).length_eq).symm
  rw [e1, List.filter_map, List.length_map]
  have e2 : (List.range r.length).filter ((fun j => better r j (f t)) ∘ f) = (List.range r.length).filter fun i => decide (i < t) := by
    refine List.filter_congr fun u hu => ?_
    have hu := List.mem_range.1 hu
    simp only [Function.comp]
    rcases Nat.lt_trichotomy u t with g | g | g
    · rw [ho u t g ht, decide_eq_true g]
    · subst g
      rw [better_irrefl, decide_eq_false (by omega)]
    · rw [decide_eq_false (by omega), Bool.eq_false_iff]
      intro h
      have := better_trans h (ho t u g hu)
      rw [better_irrefl] at this; cases this
  rw [e2, count_range]; omega

/-- how a comparison of two rests answers -/
def cmpI (a b : Int) : Int := if a < b then -1 else if b < a then 1 else 0
theorem cmpI_neg (a b : Int) : cmpI a b < 0 ↔ a < b := by unfold cmpI; split <;> (try split) <;> omega
/-- the comparison of two places: greater rests first -/
def byRest (r : List Int) (k : Nat) (x y : Fin (k + 1)) : Int := cmpI (r.getD y.val 0) (r.getD x.val 0)
theorem order_tot (r : List Int) (k : Nat) : Tot (fun x y : Fin (k + 1) => better r x.val y.val) (fun x => x.val) (ltOf (byRest r k)) := by
  refine ⟨⟨fun x => better_irrefl r _, fun x y z h1 h2 => better_trans h1 h2, fun x y z h1 h2 => ?_⟩, fun x y h => ?_, fun x y h => ?_⟩
  · rw [Bool.eq_false_iff] at h1 h2 ⊢
    intro h3
    have g1 := mt (better_iff r x.val y.val).2 h1
    have g2 := mt (better_iff r y.val z.val).2 h2
    have g3 := (better_iff r x.val z.val).1 h3
    omega
  · cases h1 : better r x.val y.val <;> cases h2 : better r y.val x.val
    · rcases better_total (r := r) h with g | g
      · rw [h1] at g; cases g
      · rw [h2] at g; cases g
    · rfl
    · rfl
    · have := better_trans h1 h2
      rw [better_irrefl] at this; cases this
  · show decide (cmpI (r.getD x.val 0) (r.getD y.val 0) < 0) = better r y.val x.val
    rw [Bool.eq_iff_iff, decide_eq_true_eq, cmpI_neg, better_iff]
    omega
/-- the list holds the places in falling order of their rests -/
def Ordered (r L : List Int) : Prop := L.length = r.length ∧ ∀ t, t < r.length → ∃ i : Nat, L[t]? = some (i : Int) ∧ i < r.length ∧ rank r i = t
theorem ordered_of_run {r : List Int} {k : Nat} (hk : r.length = k + 1) {D : Array (Fin (k + 1))} (hD : D.size = k + 1) (h : Run (fun x y : Fin (k + 1) => better r x.val y.val) (fun x => x.val) 0 (k + 1) D) : Ordered r (D.toList.map fun x => (x.val : Int)) := by
  refine ⟨by simp [hD, hk], fun t ht => ?_⟩
  have hd : ∀ u, u < k + 1 → D[u]?.map (fun x => x.val) = some (D[u]!).val := fun u hu => by
    rw [getElem!_pos D u (by omega), Array.getElem?_eq_getElem (by omega)]; rfl
  refine ⟨(D[t]!).val, ?_, ?_, ?_⟩
  · have h1 : t < D.size := by omega
    rw [List.getElem?_map, getElem!_pos D t h1]
    have : D.toList[t]? = some D[t] := by simp
    rw [this]; rfl
  · have := (h.2 t (Nat.zero_le _) (by omega)).2; omega
  · exact rank_of_order (r := r) (f := fun t => (D[t]!).val) (fun t ht => by have := (h.2 t (Nat.zero_le _) (by omega)).2; omega) (fun s t x y => h.1 s t (Nat.zero_le _) x (by omega)) ht
end Go.Proofs.Ytikcnekaefelcaa.order
