/-
  Plain mathematics: the place of each of a list of numbers when they are put in falling order, equal ones in the order of the list. The places are a rearrangement of 0, 1, ..
-/
import Derived.Lib.Hide
namespace Go.Proofs.Ytikcnekaefelcaa.rank

/-- does place j come before place i -/
def better (r : List Int) (j i : Nat) : Bool := decide (r.getD i 0 < r.getD j 0) || (decide (r.getD j 0 = r.getD i 0) && decide (j < i))
/-- how many come before place i -/
def rank (r : List Int) (i : Nat) : Nat := ((List.range r.length).filter fun j => better r j i).length

theorem better_iff (r : List Int) (j i : Nat) : better r j i = true ↔ r.getD i 0 < r.getD j 0 ∨ (r.getD j 0 = r.getD i 0 ∧ j < i) := by
  simp [better]
theorem better_irrefl (r : List Int) (i : Nat) : better r i i = false := by
  rw [Bool.eq_false_iff]; intro h; have := (better_iff r i i).1 h; omega
theorem better_trans {r : List Int} {a b c : Nat} (h1 : better r a b = true) (h2 : better r b c = true) : better r a c = true := by
  have h1 := (better_iff r a b).1 h1
  have h2 := (better_iff r b c).1 h2
  exact (better_iff r a c).2 (by omega)
theorem better_total {r : List Int} {a b : Nat} (h : a ≠ b) : better r a b = true ∨ better r b a = true := by
  rw [better_iff, better_iff]; omega

theorem filter_lt {α : Type} {l : List α} {p q : α → Bool} (h : ∀ x ∈ l, p x = true → q x = true) {y : α} (hy : y ∈ l) (h1 : p y = false) (h2 : q y = true) : (l.filter p).length < (l.filter q).length := by
  induction l with
  | nil => cases hy
  | cons x l ih =>
    have hle : ∀ (l : List α), (∀ x ∈ l, p x = true → q x = true) → (l.filter p).length ≤ (l.filter q).length := by
      intro l
      induction l with
      | nil => intro _; simp
      | cons z l ih2 =>
        intro hz
        have := ih2 (fun x hx => hz x (List.mem_cons_of_mem _ hx))
        have hzz := hz z (List.mem_cons_self ..)
        rw [List.filter_cons, List.filter_cons]
        cases hp : p z
        · cases hq : q z <;> simp <;> omega
        · rw [hzz hp]; simp; omega
    rcases List.mem_cons.1 hy with rfl | hy
    · have := hle l (fun x hx => h x (List.mem_cons_of_mem _ hx))
      rw [List.filter_cons, List.filter_cons, h1, h2]
      simp; omega
    · have := ih (fun x hx => h x (List.mem_cons_of_mem _ hx)) hy
      have hxx := h x (List.mem_cons_self ..)
      rw [List.filter_cons, List.filter_cons]
      cases hp : p x
      · cases hq : q x <;> simp <;> omega
      · rw [hxx hp]; simp; omega

theorem rank_mono {r : List Int} {i j : Nat} (hj : j < r.length) (h : better r j i = true) : rank r j < rank r i :=
  filter_lt (fun _ _ hx => better_trans hx h) (List.mem_range.2 hj) (better_irrefl r j) h
theorem rank_inj {r : List Int} {i j : Nat} (hi : i < r.length) (hj : j < r.length) (h : rank r i = rank r j) : i = j := by
  by_cases e : i = j
  · exact e
  · rcases better_total (r := r) e with g | g
    · have := rank_mono hi g; omega
    · have := rank_mono hj g; omega
theorem rank_lt {r : List Int} {i : Nat} (hi : i < r.length) : rank r i < r.length := by
  have := filter_lt (l := List.range r.length) (p := fun j => better r j i) (q := fun _ => true) (fun _ _ _ => rfl) (List.mem_range.2 hi) (better_irrefl r i) rfl
  have e : ((List.range r.length).filter fun _ => true).length = r.length := by rw [List.filter_eq_self.2 (fun _ _ => rfl)]; simp
  rw [e] at this
  exact this
theorem rank_better {r : List Int} {i j : Nat} (hi : i < r.length) (hj : j < r.length) : better r j i = true ↔ rank r j < rank r i := by
  refine ⟨rank_mono hj, fun h => ?_⟩
  have hne : j ≠ i := fun e => by subst e; omega
  rcases better_total (r := r) hne with g | g
  · exact g
  · have := rank_mono hi g; omega

theorem ranks_nodup (r : List Int) : ((List.range r.length).map (rank r)).Nodup := by
  rw [List.Nodup, List.pairwise_map]
  refine List.Pairwise.imp_of_mem ?_ List.nodup_range
  intro a b ha hb hab h
  exact hab (rank_inj (List.mem_range.1 ha) (List.mem_range.1 hb) h)
theorem ranks_sub (r : List Int) : ∀ t ∈ (List.range r.length).map (rank r), t ∈ List.range r.length := by
  intro t ht
  obtain ⟨i, hi, rfl⟩ := List.mem_map.1 ht
  exact List.mem_range.2 (rank_lt (List.mem_range.1 hi))
/-- every place below the length is taken -/
theorem rank_onto {r : List Int} {t : Nat} (ht : t < r.length) : ∃ i, i < r.length ∧ rank r i = t := by
  by_cases h : t ∈ (List.range r.length).map (rank r)
  · obtain ⟨i, hi, e⟩ := List.mem_map.1 h
    exact ⟨i, List.mem_range.1 hi, e⟩
  · have hn : (t :: (List.range r.length).map (rank r)).Nodup := List.nodup_cons.2 ⟨h, ranks_nodup r⟩
    have := List.Nodup.length_le_of_subset hn (l₂ := List.range r.length) (by
      intro x hx
      rcases List.mem_cons.1 hx with rfl | hx
      · exact List.mem_range.2 ht
      · exact ranks_sub r x hx)
    simp at this
    omega
theorem ranks_perm (r : List Int) : ((List.range r.length).map (rank r)).Perm (List.range r.length) := by
  rw [List.perm_ext_iff_of_nodup (ranks_nodup r) List.nodup_range]
  intro t
  refine ⟨ranks_sub r t, fun h => ?_⟩
  obtain ⟨i, hi, e⟩ := rank_onto (List.mem_range.1 h)
  exact List.mem_map.2 ⟨i, List.mem_range.2 hi, e⟩
theorem count_range (n t : Nat) : ((List.range n).filter fun i => decide (i < t)).length = min t n := by
  induction n with
  | zero => simp
  | succ n ih =>
    rw [List.range_succ, List.filter_append, List.length_append, ih]
    by_cases h : n < t
    · rw [List.filter_cons, if_pos (by simpa using h)]; simp; omega
    · rw [List.filter_cons, if_neg (by simpa using h)]; simp; omega
/-- how many stand before the t-th place: t of them -/
theorem count_before (r : List Int) (t : Nat) : ((List.range r.length).filter fun i => decide (rank r i < t)).length = min t r.length := by
  have h := (ranks_perm r).filter (fun i => decide (i < t))
  have e := h.length_eq
  rw [count_range, List.filter_map, List.length_map] at e
  exact e
end Go.Proofs.Ytikcnekaefelcaa.rank
