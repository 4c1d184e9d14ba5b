/-
  Plain mathematics of a stable sort: runs of one length, made by insertion and doubled by merging. No program text.
-/
import Derived.Test.YtikcnekaefelcaaStable
namespace Go.Proofs.Ytikcnekaefelcaa.stable
open Go.Sort
set_option linter.unusedVariables false
variable {α : Type} [Inhabited α] {lt : α → α → Bool} {key : α → Nat} {test : α → α → Bool}

def Runs (lt : α → α → Bool) (key : α → Nat) (s n : Nat) (d : Array α) : Prop := ∀ p, s * p < n → Run lt key (s * p) (min (s * p + s) n) d
/-- the first q runs of the length s are there; behind them every place holds its own key -/
def Heads (lt : α → α → Bool) (key : α → Nat) (s n a q : Nat) (d : Array α) : Prop := a = s * q ∧ (∀ p, p < q → Run lt key (s * p) (s * p + s) d) ∧ ∀ t, a ≤ t → t < n → key d[t]! = t
/-- the first q runs of the double length are there; behind them runs of the length s -/
def Half (lt : α → α → Bool) (key : α → Nat) (s s2 n a q : Nat) (d : Array α) : Prop := a = s2 * q ∧ (∀ p, p < q → Run lt key (s2 * p) (s2 * p + s2) d) ∧ ∀ p, a ≤ s * p → s * p < n → Run lt key (s * p) (min (s * p + s) n) d

theorem mul_before {s p q : Nat} (h : p < q) : s * p + s ≤ s * q := by
  have := Nat.mul_le_mul_left s (show p + 1 ≤ q from h)
  rwa [Nat.mul_add, Nat.mul_one] at this

theorem ins_outside (T : Tot lt key test) {a b : Nat} {d : Array α} (hab : a ≤ b) (hb : b ≤ d.size) (hk : ∀ t, a ≤ t → t < b → key d[t]! = t) : PermIn a b d (insertionSort test d a b) :=
  (ins_sorted T hab hb (fun t u x y z => by rw [hk t x (by omega), hk u (by omega) z]; exact y)).1
theorem heads_step (T : Tot lt key test) {s n a b q : Nat} {d : Array α} (h : Heads lt key s n a q d) (hab : a + s = b) (hb : b ≤ n) (hn : n ≤ d.size) : Heads lt key s n b (q + 1) (insertionSort test d a b) := by
  obtain ⟨h1, h2, h3⟩ := h
  have hk : ∀ t, a ≤ t → t < b → key d[t]! = t := fun t x y => h3 t x (by omega)
  have hp := ins_outside T (show a ≤ b by omega) (by omega) hk
  refine ⟨by rw [Nat.mul_add, ← h1]; omega, fun p hpq => ?_, fun t x y => ?_⟩
  · by_cases e : p = q
    · subst e
      rw [← h1, hab]; exact run_ins T (by omega) (by omega) hk
    · have := mul_before (s := s) (show p < q by omega)
      exact (h2 p (by omega)).congr fun k x y => hp.2.1 k (.inl (by omega))
  · rw [hp.2.1 t (.inr x)]; exact h3 t (by omega) y
theorem heads_end (T : Tot lt key test) {s n a q : Nat} {d : Array α} (h : Heads lt key s n a q d) (han : a ≤ n) (hb : n < a + s) (hn : n ≤ d.size) : Runs lt key s n (insertionSort test d a n) := by
  obtain ⟨h1, h2, h3⟩ := h
  have hp := ins_outside T han hn h3
  intro p hpn
  rcases Nat.lt_trichotomy p q with g | g | g
  · have := mul_before (s := s) g
    rw [Nat.min_eq_left (by omega)]
    exact (h2 p g).congr fun k x y => hp.2.1 k (.inl (by omega))
  · subst g
    rw [← h1, Nat.min_eq_right (by omega)]; exact run_ins T han hn h3
  · have := mul_before (s := s) g
    omega

theorem half_start {s s2 n : Nat} {d : Array α} (h : Runs lt key s n d) : Half lt key s s2 n 0 0 d := ⟨rfl, fun p hp => by omega, fun p _ hp => h p hp⟩
theorem half_at {s s2 n a q : Nat} {d : Array α} (hs : s2 = 2 * s) (h : Half lt key s s2 n a q d) : s * (2 * q) = a ∧ s * (2 * q + 1) = a + s := by
  obtain ⟨h1, -, -⟩ := h
  have e : s * (2 * q) = a := by rw [h1, hs, Nat.mul_comm 2 s, Nat.mul_assoc]
  exact ⟨e, by rw [Nat.mul_add, e, Nat.mul_one]⟩
theorem half_fst {s s2 n a q : Nat} {d : Array α} (hs : s2 = 2 * s) (h : Half lt key s s2 n a q d) (han : a < n) : Run lt key a (min (a + s) n) d := by
  obtain ⟨e1, -⟩ := half_at hs h
  have := h.2.2 (2 * q) (by omega) (by omega)
  rwa [e1] at this
theorem half_snd {s s2 n a q : Nat} {d : Array α} (hs : s2 = 2 * s) (h : Half lt key s s2 n a q d) (han : a + s < n) : Run lt key (a + s) (min (a + s2) n) d := by
  obtain ⟨-, e2⟩ := half_at hs h
  have := h.2.2 (2 * q + 1) (by omega) (by omega)
  rw [e2] at this
  rwa [show a + s + s = a + s2 by omega] at this
theorem half_step {s s2 n a b q : Nat} {d d' : Array α} (hs : s2 = 2 * s) (h0 : 0 < s) (h : Half lt key s s2 n a q d) (hab : a + s2 = b) (hb : b ≤ n) (hn : n ≤ d.size) (hp : PermIn a b d d') (hA : Asc lt a b d') : Half lt key s s2 n b (q + 1) d' := by
  have r1 := half_fst hs h (by omega)
  have r2 := half_snd hs h (by omega)
  rw [Nat.min_eq_left (by omega)] at r1 r2
  obtain ⟨h1, h2, h3⟩ := h
  refine ⟨by rw [Nat.mul_add, ← h1]; omega, fun p hpq => ?_, fun p x y => ?_⟩
  · by_cases e : p = q
    · subst e
      rw [← h1, hab]
      rw [hab] at r2
      exact run_merge (by omega) (by omega) (by omega) r1 r2 hp hA
    · have := mul_before (s := s2) (show p < q by omega)
      exact (h2 p (by omega)).congr fun k x y => hp.2.1 k (.inl (by omega))
  · exact (h3 p (by omega) y).congr fun k x y => hp.2.1 k (.inr (by omega))
theorem half_end {s s2 n a q : Nat} {d d' : Array α} (hs : s2 = 2 * s) (h0 : 0 < s) (h : Half lt key s s2 n a q d) (han : a ≤ n) (hb : n < a + s2) (hn : n ≤ d.size)
    (hm : (a + s < n ∧ PermIn a n d d' ∧ Asc lt a n d') ∨ (¬ a + s < n ∧ d' = d)) : Runs lt key s2 n d' := by
  have same : ∀ k, k < a → d'[k]! = d[k]! := by
    rcases hm with ⟨_, hp, _⟩ | ⟨_, rfl⟩
    · exact fun k hk => hp.2.1 k (.inl hk)
    · exact fun _ _ => rfl
  intro p hpn
  rcases Nat.lt_trichotomy p q with g | g | g
  · have := mul_before (s := s2) g
    have h1 := h.1
    rw [Nat.min_eq_left (by omega)]
    exact (h.2.1 p g).congr fun k x y => same k (by omega)
  · subst g
    have h1 := h.1
    rw [← h1, Nat.min_eq_right (by omega)]
    rcases hm with ⟨g1, hp, hA⟩ | ⟨g1, rfl⟩
    · have r1 := half_fst hs h (by omega)
      have r2 := half_snd hs h g1
      rw [Nat.min_eq_left (by omega)] at r1
      rw [Nat.min_eq_right (by omega)] at r2
      exact run_merge (by omega) (by omega) hn r1 r2 hp hA
    · have r1 := half_fst hs h (by omega)
      rwa [Nat.min_eq_right (by omega)] at r1
  · have := mul_before (s := s2) g
    have h1 := h.1
    omega
theorem insInner_size (f : α → α → Bool) (a : Nat) : ∀ (j : Nat) (d : Array α), (insInner f a j d).size = d.size
  | 0, d => rfl
  | j + 1, d => by
    unfold insInner
    split
    · rw [insInner_size f a j, size_swp]
    · rfl
theorem insOuter_size (f : α → α → Bool) (a b : Nat) : ∀ (n i : Nat) (d : Array α), b - i = n → (insOuter f a b i d).size = d.size
  | 0, i, d, hn => by rw [insOuter, if_neg (by omega)]
  | n + 1, i, d, hn => by rw [insOuter, if_pos (by omega), insOuter_size f a b n (i + 1) _ (by omega), insInner_size]
theorem ins_size (f : α → α → Bool) (d : Array α) (a b : Nat) : (insertionSort f d a b).size = d.size := insOuter_size f a b _ _ d rfl

/-- one run is the whole -/
theorem runs_all {s n : Nat} {d : Array α} (h : Runs lt key s n d) (hn : n ≤ s) : Run lt key 0 n d := by
  rcases Nat.eq_zero_or_pos n with e | e
  · subst e
    exact ⟨fun i j _ _ h => by omega, fun i _ h => by omega⟩
  · have := h 0 (by omega)
    rwa [Nat.mul_zero, Nat.zero_add, Nat.min_eq_right hn] at this
end Go.Proofs.Ytikcnekaefelcaa.stable
