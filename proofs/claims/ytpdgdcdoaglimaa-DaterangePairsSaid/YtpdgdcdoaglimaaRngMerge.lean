/-
  Plain mathematics: the union read off a list sorted by its starts; the gaps read off a union; the ends sorted, each once. No program text.
-/
import Derived.Test.YtpdgdcdoaglimaaRng
import Derived.Lib.SlicesCompact
namespace Go.Proofs.Ytpdgdcdoaglimaa.rng
set_option linter.unusedVariables false

/-- sorted by the starts -/
def Asc (l : List R) : Prop := l.Pairwise fun x y => x.1 ≤ y.1

/-- what the loop over the sorted list holds behind its first i rounds -/
structure Merged (s : List R) (i : Nat) (u : List R) : Prop where
  norm : Norm u
  cov : ∀ d, covers u d = covers (s.take i) d
  low : ∀ x ∈ u, ∀ y ∈ s.drop i, x.1 ≤ y.1
theorem Merged.start (s : List R) : Merged s 0 [] := ⟨.nil, fun d => by simp [covers], fun x h => by cases h⟩
theorem covers_take_succ {s : List R} {i : Nat} {r : R} (h : s[i]? = some r) (d : Int) : covers (s.take (i + 1)) d = (covers (s.take i) d || hasR r d) := by
  rw [List.take_add_one, h, covers_append]
  simp [covers]
theorem mem_drop_at {s : List R} {i : Nat} {r : R} (h : s[i]? = some r) : r ∈ s.drop i := by
  obtain ⟨hl, he⟩ := List.getElem?_eq_some_iff.1 h
  rw [List.drop_eq_getElem_cons hl, he]; simp
theorem mem_drop_succ {s : List R} {i : Nat} {y : R} (h : y ∈ s.drop (i + 1)) : y ∈ s.drop i := by
  rw [← List.drop_drop] at h
  exact List.mem_of_mem_drop h
theorem asc_drop {s : List R} (ha : Asc s) {i : Nat} {r : R} (h : s[i]? = some r) {y : R} (hy : y ∈ s.drop (i + 1)) : r.1 ≤ y.1 := by
  obtain ⟨hl, he⟩ := List.getElem?_eq_some_iff.1 h
  have h1 : Asc (s.drop i) := List.Pairwise.sublist (List.drop_sublist _ _) ha
  rw [List.drop_eq_getElem_cons hl, he] at h1
  exact (List.pairwise_cons.1 h1).1 y hy
/-- the range touches none: it is laid behind -/
theorem Merged.add {s u : List R} {i : Nat} {r : R} (h : Merged s i u) (ha : Asc s) (hr : s[i]? = some r) (hn : neR r = true) (hl : ∀ x ∈ u, x.2 < r.1) : Merged s (i + 1) (u ++ [r]) where
  norm := norm_append.2 ⟨h.norm, norm_cons.2 ⟨hn, fun y hy => (by cases hy), .nil⟩, fun x hx y hy => by
    rw [List.mem_singleton] at hy; subst hy; exact hl x hx⟩
  cov d := by rw [covers_take_succ hr, covers_append, h.cov]; simp [covers]
  low x hx y hy := by
    rcases List.mem_append.1 hx with hx | hx
    · exact h.low x hx y (mem_drop_succ hy)
    · rw [List.mem_singleton] at hx; subst hx; exact asc_drop ha hr hy
/-- the range touches the last one: that one is stretched -/
theorem Merged.stretch {s v : List R} {i : Nat} {x r : R} (h : Merged s i (v ++ [x])) (hr : s[i]? = some r) (hn : neR r = true) (hl : r.1 ≤ x.2) : Merged s (i + 1) (v ++ [(x.1, max x.2 r.2)]) := by
  have h1 := h.low x (by simp) r (mem_drop_at hr)
  obtain ⟨n1, n2, n3⟩ := norm_append.1 h.norm
  have ex := (ne_iff x).1 (norm_cons.1 n2).1
  have er := (ne_iff r).1 hn
  refine ⟨norm_append.2 ⟨n1, norm_cons.2 ⟨by rw [ne_iff]; simp only; omega, fun y hy => (by cases hy), .nil⟩, fun a ha b hb => ?_⟩, fun d => ?_, fun a ha y hy => ?_⟩
  · rw [List.mem_singleton] at hb; subst hb
    exact n3 a ha x (by simp)
  · rw [covers_take_succ hr, ← h.cov, covers_append, covers_append, Bool.or_assoc]
    congr 1
    rw [Bool.eq_iff_iff]
    simp [covers, hasR, okR]
    omega
  · rcases List.mem_append.1 ha with ha | ha
    · exact h.low a (by simp [ha]) y (mem_drop_succ hy)
    · rw [List.mem_singleton] at ha; subst ha
      exact h.low x (by simp) y (mem_drop_succ hy)
theorem Merged.last_lt {s v : List R} {i : Nat} {x : R} (h : Merged s i (v ++ [x])) {b : Int} (hb : x.2 < b) : ∀ y ∈ v ++ [x], y.2 < b := fun y hy => by
  obtain ⟨n1, n2, n3⟩ := norm_append.1 h.norm
  rcases List.mem_append.1 hy with hy | hy
  · have := n3 y hy x (by simp)
    have ex := (ne_iff x).1 (norm_cons.1 n2).1
    omega
  · rw [List.mem_singleton] at hy; subst hy; exact hb
theorem covers_filter (l : List R) (d : Int) : covers (l.filter neR) d = covers l d := by
  rw [Bool.eq_iff_iff, covers_iff, covers_iff]
  constructor
  · rintro ⟨r, h, hd⟩
    exact ⟨r, (List.mem_filter.1 h).1, hd⟩
  · rintro ⟨r, h, hd⟩
    refine ⟨r, List.mem_filter.2 ⟨h, ?_⟩, hd⟩
    rw [has_iff] at hd
    rw [ne_iff]; omega
theorem covers_mem {l m : List R} (h : ∀ x, x ∈ l ↔ x ∈ m) (d : Int) : covers l d = covers m d := by
  rw [Bool.eq_iff_iff, covers_iff, covers_iff]
  exact ⟨fun ⟨r, a, b⟩ => ⟨r, (h r).1 a, b⟩, fun ⟨r, a, b⟩ => ⟨r, (h r).2 a, b⟩⟩
theorem Merged.done {l s u : List R} {n : Nat} (h : Merged s n u) (hn : s.length ≤ n) (hp : s.Perm (l.filter neR)) : unionR l = u :=
  union_is h.norm fun d => by
    rw [h.cov, List.take_of_length_le hn, ← covers_filter l]
    exact covers_mem (fun x => hp.mem_iff) d

/-! ### gaps off a union -/
structure Gapped (U : List R) (w : R) (i : Nat) (g : List R) (f : Int) : Prop where
  lo : w.1 ≤ f
  hi : f ≤ w.2
  norm : Norm g
  ends : ∀ x ∈ g, x.2 < f
  cov : ∀ d, covers g d = (hasR w d && decide (d < f) && !covers (U.take i) d)
  low : ∀ y ∈ U.drop i, ∀ d, hasR y d = true → hasR w d = true → f ≤ d
  past : ∀ d, covers (U.take i) d = true → hasR w d = true → d < f
theorem Gapped.start (U : List R) {w : R} (hw : neR w = true) : Gapped U w 0 [] w.1 where
  lo := Int.le_refl _
  hi := by have := (ne_iff w).1 hw; omega
  norm := .nil
  ends := fun x h => by cases h
  cov d := by
    cases hh : hasR w d
    · simp [covers]
    · rw [has_iff] at hh; simp [covers]; omega
  low y hy d hd hw := by rw [has_iff] at hw; omega
  past d h := by simp [covers] at h
theorem inter_no {a b : R} {c : R} (h : interR a b = (c, false)) (d : Int) : (hasR a d && hasR b d) = false := by
  rw [← inter_has, h]; rfl
theorem Gapped.skip {U g : List R} {w r c : R} {i : Nat} {f : Int} (h : Gapped U w i g f) (hr : U[i]? = some r) (hc : interR r w = (c, false)) : Gapped U w (i + 1) g f where
  lo := h.lo
  hi := h.hi
  norm := h.norm
  ends := h.ends
  cov d := by
    have := inter_no hc d
    rw [h.cov, covers_take_succ hr]
    cases hw : hasR w d
    · simp
    · rw [hw, Bool.and_true] at this; rw [this]; simp
  low y hy := h.low y (mem_drop_succ hy)
  past d hd hw := by
    have := inter_no hc d
    rw [hw, Bool.and_true] at this
    rw [covers_take_succ hr, this, Bool.or_false] at hd
    exact h.past d hd hw
theorem inter_yes {a b c : R} (h : interR a b = (c, true)) : neR a = true ∧ neR b = true ∧ c.1 = max a.1 b.1 ∧ c.2 = min a.2 b.2 ∧ c.1 < c.2 := by
  unfold interR at h
  split at h
  · rename_i g
    injection h with h1 _
    have h2 := Bool.and_eq_true_iff.1 g
    have h3 := of_decide_eq_true h2.2
    have h4 := Bool.and_eq_true_iff.1 h2.1
    simp [okR] at h4
    subst h1
    exact ⟨(ne_iff a).2 (by omega), (ne_iff b).2 (by omega), rfl, rfl, h3⟩
  · injection h with _ h2; cases h2
theorem Gapped.low_at {U g : List R} {w r c : R} {i : Nat} {f : Int} (h : Gapped U w i g f) (hr : U[i]? = some r) (hc : interR r w = (c, true)) : f ≤ c.1 := by
  obtain ⟨h1, h2, h3, h4, h5⟩ := inter_yes hc
  rw [ne_iff] at h1 h2
  exact h.low r (mem_drop_at hr) c.1 (by rw [has_iff]; omega) (by rw [has_iff]; omega)
theorem Gapped.next_low {U g : List R} {w r c : R} {i : Nat} {f : Int} (h : Gapped U w i g f) (hU : Norm U) (hr : U[i]? = some r) (hc : interR r w = (c, true)) : ∀ y ∈ U.drop (i + 1), ∀ d, hasR y d = true → hasR w d = true → c.2 ≤ d := by
  intro y hy d hd hw
  obtain ⟨h1, h2, h3, h4, h5⟩ := inter_yes hc
  obtain ⟨hl, he⟩ := List.getElem?_eq_some_iff.1 hr
  have hN : Norm (U.drop i) := hU.sub (List.drop_sublist _ _)
  rw [List.drop_eq_getElem_cons hl, he] at hN
  have := (norm_cons.1 hN).2.1 y hy
  rw [has_iff] at hd hw
  omega
theorem Gapped.next_past {U g : List R} {w r c : R} {i : Nat} {f : Int} (h : Gapped U w i g f) (hr : U[i]? = some r) (hc : interR r w = (c, true)) (d : Int) (hd : covers (U.take (i + 1)) d = true) (hw : hasR w d = true) : d < c.2 := by
  have h0 := h.low_at hr hc
  obtain ⟨h1, h2, h3, h4, h5⟩ := inter_yes hc
  rw [covers_take_succ hr, Bool.or_eq_true_iff] at hd
  rcases hd with hd | hd
  · have := h.past d hd hw; omega
  · rw [has_iff] at hd hw; omega
theorem Gapped.hop {U g : List R} {w r c : R} {i : Nat} {f : Int} (h : Gapped U w i g f) (hU : Norm U) (hr : U[i]? = some r) (hc : interR r w = (c, true)) (hf : ¬ f < c.1) : Gapped U w (i + 1) g c.2 := by
  have h0 := h.low_at hr hc
  obtain ⟨h1, h2, h3, h4, h5⟩ := inter_yes hc
  have e1 := (ne_iff r).1 h1
  have e2 := (ne_iff w).1 h2
  have hlo := h.lo
  refine ⟨by omega, by omega, h.norm, fun x hx => by have := h.ends x hx; omega, fun d => ?_, h.next_low hU hr hc, h.next_past hr hc⟩
  rw [h.cov, covers_take_succ hr]
  cases covers (U.take i) d
  · simp only [Bool.false_or, Bool.not_false, Bool.and_true]
    rw [Bool.eq_iff_iff]
    simp [hasR, okR]
    omega
  · simp
theorem Gapped.put {U g : List R} {w r c : R} {i : Nat} {f : Int} (h : Gapped U w i g f) (hU : Norm U) (hr : U[i]? = some r) (hc : interR r w = (c, true)) (hf : f < c.1) : Gapped U w (i + 1) (g ++ [(f, c.1)]) c.2 := by
  obtain ⟨h1, h2, h3, h4, h5⟩ := inter_yes hc
  have e1 := (ne_iff r).1 h1
  have e2 := (ne_iff w).1 h2
  have hlo := h.lo
  refine ⟨by omega, by omega, norm_append.2 ⟨h.norm, norm_cons.2 ⟨by rw [ne_iff]; simp only; omega, fun y hy => (by cases hy), .nil⟩, fun x hx y hy => ?_⟩, fun x hx => ?_, fun d => ?_, h.next_low hU hr hc, h.next_past hr hc⟩
  · rw [List.mem_singleton] at hy; subst hy; exact h.ends x hx
  · rcases List.mem_append.1 hx with hx | hx
    · have := h.ends x hx; omega
    · rw [List.mem_singleton] at hx; subst hx; simp only; omega
  · rw [covers_take_succ hr, covers_append, h.cov]
    have hp := h.past d
    cases hcv : covers (U.take i) d
    · simp only [Bool.false_or, Bool.not_false, Bool.and_true]
      rw [Bool.eq_iff_iff]
      simp [covers, hasR, okR]
      omega
    · rw [hcv] at hp
      have hp' := hp rfl
      rw [has_iff] at hp'
      simp only [Bool.true_or, Bool.not_true, Bool.and_false, Bool.false_or]
      simp [covers, hasR, okR]
      omega
theorem Gapped.done {l U g : List R} {w : R} {n : Nat} {f : Int} (h : Gapped U w n g f) (hn : U.length ≤ n) (hw : neR w = true) (hU : unionR l = U) (hf : ¬ f < w.2) : gapsR l w = g :=
  gaps_is h.norm fun d => by
    rw [h.cov, List.take_of_length_le hn, ← hU, union_covers]
    have := h.hi
    cases hh : hasR w d
    · simp
    · rw [has_iff] at hh; simp; omega
theorem Gapped.last {l U g : List R} {w : R} {n : Nat} {f : Int} (h : Gapped U w n g f) (hn : U.length ≤ n) (hw : neR w = true) (hU : unionR l = U) (hf : f < w.2) : gapsR l w = g ++ [(f, w.2)] := by
  have e2 := (ne_iff w).1 hw
  have hlo := h.lo
  refine gaps_is (norm_append.2 ⟨h.norm, norm_cons.2 ⟨by rw [ne_iff]; simp only; omega, fun y hy => (by cases hy), .nil⟩, fun x hx y hy => ?_⟩) fun d => ?_
  · rw [List.mem_singleton] at hy; subst hy; exact h.ends x hx
  · have hp := h.past d
    rw [List.take_of_length_le hn] at hp
    rw [covers_append, h.cov, List.take_of_length_le hn, ← union_covers l, hU]
    cases hcv : covers U d
    · simp only [Bool.not_false, Bool.and_true]
      rw [Bool.eq_iff_iff]
      simp [covers, hasR, okR]
      omega
    · rw [hcv] at hp
      have hp' := hp rfl
      rw [has_iff] at hp'
      simp only [Bool.not_true, Bool.and_false, Bool.false_or]
      simp [covers, hasR, okR]
      omega

/-! ### the ends, sorted, each once -/
/-- both ends of each range that holds a date -/
def endsR (l : List R) : List Int := (l.filter neR).flatMap fun r => [r.1, r.2]
theorem ends_mem (l : List R) (n : Int) : n ∈ endsR l ↔ ∃ x ∈ l, neR x = true ∧ (n = x.1 ∨ n = x.2) := by
  unfold endsR
  simp [List.mem_flatMap, and_assoc]
theorem ends_take {l : List R} {k : Nat} {x : R} (h : l[k]? = some x) : endsR (l.take (k + 1)) = endsR (l.take k) ++ (if neR x then [x.1, x.2] else []) := by
  unfold endsR
  rw [List.take_add_one, h]
  cases hx : neR x <;> simp [List.filter_append, hx]
theorem ends_length (l : List R) : (endsR l).length ≤ 2 * l.length := by
  induction l with
  | nil => simp [endsR]
  | cons x l ih =>
    unfold endsR at ih ⊢
    rw [List.filter_cons]
    split
    · rw [List.flatMap_cons, List.length_append, List.length_cons]; simp only [List.length_cons, List.length_nil]; omega
    · rw [List.length_cons]; omega
theorem compact_mem (zs : List Int) (n : Int) : n ∈ Lib.compact zs ↔ n ∈ zs := by
  unfold Lib.compact
  have key : ∀ m, m ≤ zs.length → (n ∈ Lib.compactUpTo zs.toArray m ↔ n ∈ zs.take m) := by
    intro m
    induction m with
    | zero => intro _; simp [Lib.compactUpTo]
    | succ m ih =>
      intro hm
      have e : zs.toArray[m]! = zs[m] := by rw [getElem!_pos _ m (by simp; omega)]; simp
      rw [Lib.compactUpTo_succ, List.mem_append, ih (by omega), List.take_add_one, List.mem_append, List.getElem?_eq_getElem (by omega)]
      by_cases hk : Lib.keeps zs.toArray m = true
      · rw [if_pos hk, e]; simp
      · rw [if_neg hk]
        have h0 : m ≠ 0 := by
          intro e; subst e; simp [Lib.keeps] at hk
        have e1 : zs.toArray[m - 1]! = zs[m - 1] := by rw [getElem!_pos _ (m - 1) (by simp; omega)]; simp
        have heq : zs[m] = zs[m - 1] := by
          simp [Lib.keeps, e, e1] at hk
          exact hk.2
        rw [heq]
        constructor
        · rintro (h | h)
          · exact .inl h
          · cases h
        · rintro (h | h)
          · exact .inl h
          · left
            simp at h
            subst h
            exact List.mem_take_iff_getElem.2 ⟨m - 1, by omega, rfl⟩
  have := key zs.length (Nat.le_refl _)
  rw [List.take_of_length_le (Nat.le_refl _)] at this
  exact this
theorem compact_up (zs : List Int) (h : zs.Pairwise (· ≤ ·)) : Up (Lib.compact zs) := by
  have hs : ∀ i j, i < j → (hj : j < zs.length) → (hi : i < zs.length) → zs[i] ≤ zs[j] := fun i j hij hj hi => List.pairwise_iff_getElem.1 h i j hi hj hij
  have key : ∀ m, m ≤ zs.length → Up (Lib.compactUpTo zs.toArray m) ∧ ∀ x ∈ Lib.compactUpTo zs.toArray m, ∃ j, ∃ hj : j < zs.length, j < m ∧ x = zs[j] := by
    intro m
    induction m with
    | zero => intro _; exact ⟨by simp [Lib.compactUpTo, Up], fun x hx => by simp [Lib.compactUpTo] at hx⟩
    | succ m ih =>
      intro hm
      obtain ⟨i1, i2⟩ := ih (by omega)
      have e : zs.toArray[m]! = zs[m] := by rw [getElem!_pos _ m (by simp; omega)]; simp
      rw [Lib.compactUpTo_succ]
      by_cases hk : Lib.keeps zs.toArray m = true
      · rw [if_pos hk, e]
        refine ⟨List.pairwise_append.2 ⟨i1, by simp, fun x hx y hy => ?_⟩, fun x hx => ?_⟩
        · rw [List.mem_singleton] at hy; subst hy
          obtain ⟨j, hj, hjm, rfl⟩ := i2 x hx
          have h1 : zs[j] ≤ zs[m - 1] := by
            by_cases e : j = m - 1
            · subst e; exact Int.le_refl _
            · exact hs j (m - 1) (by omega) (by omega) (by omega)
          have h2 := hs (m - 1) m (by omega) (by omega) (by omega)
          have e1 : zs.toArray[m - 1]! = zs[m - 1] := by rw [getElem!_pos _ (m - 1) (by simp; omega)]; simp
          have h3 : zs[m] ≠ zs[m - 1] := by
            simp [Lib.keeps, e, e1] at hk
            rcases hk with hk | hk
            · omega
            · exact hk
          omega
        · rcases List.mem_append.1 hx with hx | hx
          · obtain ⟨j, hj, hjm, he⟩ := i2 x hx
            exact ⟨j, hj, by omega, he⟩
          · rw [List.mem_singleton] at hx
            exact ⟨m, by omega, by omega, hx⟩
      · rw [if_neg hk, List.append_nil]
        exact ⟨i1, fun x hx => by obtain ⟨j, hj, hjm, he⟩ := i2 x hx; exact ⟨j, hj, by omega, he⟩⟩
  exact (key zs.length (Nat.le_refl _)).1
theorem bnd_sorted (l : List R) {s : List Int} (hs : s.Pairwise (· ≤ ·)) (hp : s.Perm (endsR l)) : bndR l = Lib.compact s :=
  bnd_is (compact_up s hs) fun n => by rw [compact_mem, hp.mem_iff, ends_mem]
end Go.Proofs.Ytpdgdcdoaglimaa.rng
