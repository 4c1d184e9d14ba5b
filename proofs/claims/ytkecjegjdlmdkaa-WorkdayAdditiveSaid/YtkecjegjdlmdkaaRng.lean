/-
  Plain mathematics of half-open ranges of dates. No program text.
-/
import Derived.WalkKit
namespace Go.Proofs.Ytkecjegjdlmdkaa.rng
set_option linter.unusedVariables false

abbrev R := Int × Int
def okR (r : R) : Bool := decide (0 ≤ r.1) && (decide (r.1 ≤ r.2) && decide (r.2 ≤ 109573))
def neR (r : R) : Bool := okR r && decide (r.1 < r.2)
def hasR (r : R) (d : Int) : Bool := okR r && (decide (r.1 ≤ d) && decide (d < r.2))
def covers (l : List R) (d : Int) : Bool := l.any fun r => hasR r d
def interR (a b : R) : R × Bool :=
  if okR a && okR b && decide (max a.1 b.1 < min a.2 b.2) then ((max a.1 b.1, min a.2 b.2), true) else ((0, 0), false)
def subR (a b : R) : List R :=
  if neR a then
    (if (interR a b).2 then (if a.1 < (interR a b).1.1 then [(a.1, (interR a b).1.1)] else []) ++ (if (interR a b).1.2 < a.2 then [((interR a b).1.2, a.2)] else []) else [a])
  else []
def putA : List R → R → List R × R
  | [], r => ([], r)
  | x :: l, r => if x.2 < r.1 then (x :: (putA l r).1, (putA l r).2) else if x.1 ≤ r.2 then putA l (min r.1 x.1, max r.2 x.2) else putA l r
def putR (l : List R) (r : R) : List R := (putA l r).1 ++ (putA l r).2 :: l.filter fun x => decide ((putA l r).2.2 < x.1)
def unionR (l : List R) : List R := l.foldl (fun o x => if neR x then putR o x else o) []
def gapsR (l : List R) (w : R) : List R := if neR w then l.foldl (fun o x => o.flatMap fun y => subR y x) [w] else []
def insR (l : List Int) (n : Int) : List Int := (l.filter fun x => decide (x < n)) ++ n :: l.filter fun x => decide (n < x)
def bndR (l : List R) : List Int := l.foldl (fun o x => if neR x then insR (insR o x.1) x.2 else o) []

def Norm (l : List R) : Prop := (∀ x ∈ l, neR x = true) ∧ l.Pairwise fun x y => x.2 < y.1

theorem ne_iff (r : R) : neR r = true ↔ 0 ≤ r.1 ∧ r.1 < r.2 ∧ r.2 ≤ 109573 := by simp [neR, okR]; omega
theorem has_iff (r : R) (d : Int) : hasR r d = true ↔ 0 ≤ r.1 ∧ r.1 ≤ d ∧ d < r.2 ∧ r.2 ≤ 109573 := by simp [hasR, okR]; omega
theorem covers_iff (l : List R) (d : Int) : covers l d = true ↔ ∃ r ∈ l, hasR r d = true := by simp [covers]
theorem covers_cons (x : R) (l : List R) (d : Int) : covers (x :: l) d = (hasR x d || covers l d) := rfl
theorem covers_append (l m : List R) (d : Int) : covers (l ++ m) d = (covers l d || covers m d) := by simp [covers]
theorem Norm.nil : Norm [] := ⟨fun _ h => (by cases h), List.Pairwise.nil⟩
theorem norm_cons {x : R} {l : List R} : Norm (x :: l) ↔ neR x = true ∧ (∀ y ∈ l, x.2 < y.1) ∧ Norm l := by
  unfold Norm
  rw [List.pairwise_cons, List.forall_mem_cons]
  exact ⟨fun ⟨⟨a, b⟩, c, d⟩ => ⟨a, c, b, d⟩, fun ⟨a, c, b, d⟩ => ⟨⟨a, b⟩, c, d⟩⟩
theorem norm_append {l m : List R} : Norm (l ++ m) ↔ Norm l ∧ Norm m ∧ ∀ x ∈ l, ∀ y ∈ m, x.2 < y.1 := by
  unfold Norm
  rw [List.pairwise_append]
  constructor
  · rintro ⟨a, b, c, d⟩
    exact ⟨⟨fun x h => a x (List.mem_append_left _ h), b⟩, ⟨fun x h => a x (List.mem_append_right _ h), c⟩, d⟩
  · rintro ⟨⟨a, b⟩, ⟨c, d⟩, e⟩
    exact ⟨fun x h => (List.mem_append.1 h).elim (a x) (c x), b, d, e⟩
theorem Norm.sub {l m : List R} (h : Norm l) (hs : m.Sublist l) : Norm m := ⟨fun x hx => h.1 x (hs.subset hx), h.2.sublist hs⟩

/-- what begins a list in normal form -/
theorem head_has {x : R} {l : List R} (h : Norm (x :: l)) {d : Int} (hd : covers (x :: l) d = true) : x.1 ≤ d := by
  obtain ⟨h1, h2, h3⟩ := norm_cons.1 h
  rw [ne_iff] at h1
  obtain ⟨r, hr, hh⟩ := (covers_iff _ _).1 hd
  rw [has_iff] at hh
  rcases List.mem_cons.1 hr with rfl | hr
  · omega
  · have := h2 r hr; omega
theorem tail_has {x : R} {l : List R} (h : Norm (x :: l)) {d : Int} (hd : covers l d = true) : x.2 < d := by
  obtain ⟨h1, h2, h3⟩ := norm_cons.1 h
  obtain ⟨r, hr, hh⟩ := (covers_iff _ _).1 hd
  rw [has_iff] at hh
  have := h2 r hr
  omega
theorem head_at {x : R} {l : List R} (h : Norm (x :: l)) (d : Int) (h1 : x.1 ≤ d) (h2 : d < x.2) : covers (x :: l) d = true := by
  have h3 := (ne_iff x).1 (norm_cons.1 h).1
  rw [covers_cons, (has_iff x d).2 ⟨by omega, h1, h2, by omega⟩]; rfl
theorem head_end {x : R} {l : List R} (h : Norm (x :: l)) : covers (x :: l) x.2 = false := by
  cases hc : covers (x :: l) x.2
  · rfl
  · rw [covers_cons] at hc
    rcases Bool.or_eq_true_iff.1 hc with g | g
    · rw [has_iff] at g; omega
    · have := tail_has h g; omega
/-- a list in normal form is known by its dates -/
theorem norm_unique : ∀ {l m : List R}, Norm l → Norm m → (∀ d, covers l d = covers m d) → l = m
  | [], [], _, _, _ => rfl
  | [], y :: m, _, hm, he => by
    have h1 := (ne_iff y).1 (norm_cons.1 hm).1
    have := he y.1
    rw [head_at hm y.1 (by omega) (by omega)] at this; cases this
  | x :: l, [], hl, _, he => by
    have h1 := (ne_iff x).1 (norm_cons.1 hl).1
    have := he x.1
    rw [head_at hl x.1 (by omega) (by omega)] at this; cases this
  | x :: l, y :: m, hl, hm, he => by
    have hx := (ne_iff x).1 (norm_cons.1 hl).1
    have hy := (ne_iff y).1 (norm_cons.1 hm).1
    have a1 : y.1 ≤ x.1 := head_has hm (by rw [← he]; exact head_at hl x.1 (by omega) (by omega))
    have a2 : x.1 ≤ y.1 := head_has hl (by rw [he]; exact head_at hm y.1 (by omega) (by omega))
    have b1 : x.2 = y.2 := by
      rcases Int.lt_trichotomy x.2 y.2 with g | g | g
      · have := he x.2
        rw [head_end hl, head_at hm x.2 (by omega) g] at this; cases this
      · exact g
      · have := he y.2
        rw [head_end hm, head_at hl y.2 (by omega) g] at this; cases this
    have e : x = y := Prod.ext (by omega) b1
    subst e
    have : l = m := norm_unique (norm_cons.1 hl).2.2 (norm_cons.1 hm).2.2 fun d => by
      rcases Int.lt_or_le x.2 d with g | g
      · have h1 := he d
        rw [covers_cons, covers_cons] at h1
        have hf : hasR x d = false := by
          cases hh : hasR x d
          · rfl
          · rw [has_iff] at hh; omega
        rw [hf] at h1
        exact h1
      · have q1 : covers l d = false := by
          cases hh : covers l d
          · rfl
          · have := tail_has hl hh; omega
        have q2 : covers m d = false := by
          cases hh : covers m d
          · rfl
          · have := tail_has hm hh; omega
        rw [q1, q2]
    rw [this]

/-! ### putting one range in -/
theorem putA_past {r : R} : ∀ {l : List R}, (∀ y ∈ l, r.2 < y.1) → (∀ y ∈ l, neR y = true) → r.1 < r.2 → putA l r = ([], r)
  | [], _, _, _ => rfl
  | x :: l, h, hn, hr => by
    have h1 := h x (by simp)
    have h2 := (ne_iff x).1 (hn x (by simp))
    unfold putA
    rw [if_neg (by omega), if_neg (by omega)]
    exact putA_past (fun y hy => h y (by simp [hy])) (fun y hy => hn y (by simp [hy])) hr
theorem putA_spec : ∀ (l : List R) (r : R), Norm l → neR r = true →
    neR (putA l r).2 = true ∧ (putA l r).2.1 ≤ r.1 ∧ r.2 ≤ (putA l r).2.2 ∧ (∀ x ∈ (putA l r).1, x ∈ l) ∧ (∀ z : Int, z < r.1 → (∀ y ∈ l, z < y.1) → z < (putA l r).2.1) ∧
    Norm (putR l r) ∧ ∀ d, covers (putR l r) d = (covers l d || hasR r d)
  | [], r, _, hr => by
    refine ⟨hr, Int.le_refl _, Int.le_refl _, fun x h => (by cases h), fun z h _ => h, ?_, fun d => ?_⟩
    · unfold putR putA
      exact norm_cons.2 ⟨hr, fun y h => (by simp at h), .nil⟩
    · unfold putR putA
      simp [covers]
  | x :: l, r, hl, hr => by
    obtain ⟨hx, hx2, hl'⟩ := norm_cons.1 hl
    have ex := (ne_iff x).1 hx
    have er := (ne_iff r).1 hr
    by_cases g1 : x.2 < r.1
    · obtain ⟨i1, i2, i3, i4, i5, i6, i7⟩ := putA_spec l r hl' hr
      have e : putA (x :: l) r = (x :: (putA l r).1, (putA l r).2) := by rw [putA, if_pos g1]
      have ep : putR (x :: l) r = x :: putR l r := by
        unfold putR
        rw [e]
        rw [List.filter_cons, if_neg (by simp; omega)]
        rfl
      rw [ep, e]
      refine ⟨i1, i2, i3, fun y hy => ?_, fun z h h' => i5 z h (fun y hy => h' y (by simp [hy])), ?_, fun d => ?_⟩
      · rcases List.mem_cons.1 hy with rfl | hy
        · simp
        · exact List.mem_cons_of_mem _ (i4 y hy)
      · refine norm_cons.2 ⟨hx, fun y hy => ?_, i6⟩
        unfold putR at hy
        rcases List.mem_append.1 hy with hy | hy
        · exact hx2 y (i4 y hy)
        · rcases List.mem_cons.1 hy with rfl | hy
          · exact i5 x.2 g1 hx2
          · exact hx2 y ((List.mem_filter.1 hy).1)
      · rw [covers_cons, covers_cons, i7, Bool.or_assoc]
    · by_cases g2 : x.1 ≤ r.2
      · have hr' : neR (min r.1 x.1, max r.2 x.2) = true := by rw [ne_iff]; simp only; omega
        obtain ⟨i1, i2, i3, i4, i5, i6, i7⟩ := putA_spec l (min r.1 x.1, max r.2 x.2) hl' hr'
        have e : putA (x :: l) r = putA l (min r.1 x.1, max r.2 x.2) := by rw [putA, if_neg g1, if_pos g2]
        simp only at i2 i3 i5
        have ep : putR (x :: l) r = putR l (min r.1 x.1, max r.2 x.2) := by
          unfold putR
          rw [e]
          rw [List.filter_cons, if_neg (by simp; omega)]
        rw [ep, e]
        refine ⟨i1, by omega, by omega, fun y hy => List.mem_cons_of_mem _ (i4 y hy), fun z h h' => i5 z (by have := h' x (by simp); omega) (fun y hy => h' y (by simp [hy])), i6, fun d => ?_⟩
        rw [i7, covers_cons]
        have hm : hasR (min r.1 x.1, max r.2 x.2) d = (hasR x d || hasR r d) := by
          rw [Bool.eq_iff_iff, Bool.or_eq_true_iff, has_iff, has_iff, has_iff]; simp only; omega
        rw [hm]
        cases covers l d <;> cases hasR x d <;> rfl
      · have hp : ∀ y ∈ x :: l, r.2 < y.1 := fun y hy => by
          rcases List.mem_cons.1 hy with rfl | hy
          · omega
          · have := hx2 y hy; omega
        have e : putA (x :: l) r = ([], r) := putA_past hp hl.1 er.2.1
        have ep : putR (x :: l) r = r :: x :: l := by
          unfold putR
          rw [e]
          simp only [List.nil_append]
          rw [List.filter_eq_self.2 (fun y hy => by simpa using hp y hy)]
        rw [ep, e]
        refine ⟨hr, Int.le_refl _, Int.le_refl _, fun y h => (by cases h), fun z h _ => h, norm_cons.2 ⟨hr, hp, hl⟩, fun d => ?_⟩
        rw [covers_cons, Bool.or_comm]
theorem union_from : ∀ (l o : List R), Norm o → Norm (l.foldl (fun o x => if neR x then putR o x else o) o) ∧ ∀ d, covers (l.foldl (fun o x => if neR x then putR o x else o) o) d = (covers o d || covers l d)
  | [], o, h => ⟨h, fun d => by simp [covers]⟩
  | x :: l, o, h => by
    rw [List.foldl_cons]
    cases hx : neR x
    · rw [if_neg (by decide)]
      obtain ⟨h1, h2⟩ := union_from l o h
      refine ⟨h1, fun d => ?_⟩
      rw [h2, covers_cons]
      have : hasR x d = false := by
        cases hh : hasR x d
        · rfl
        · rw [has_iff] at hh
          have := (ne_iff x).2 ⟨by omega, by omega, by omega⟩
          rw [hx] at this; cases this
      rw [this]; rfl
    · rw [if_pos rfl]
      obtain ⟨-, -, -, -, -, p1, p2⟩ := putA_spec o x h hx
      obtain ⟨h1, h2⟩ := union_from l (putR o x) p1
      refine ⟨h1, fun d => ?_⟩
      rw [h2, p2, covers_cons, Bool.or_assoc]
/-- the union: in normal form, with just the dates of the ranges -/
theorem union_norm (l : List R) : Norm (unionR l) := (union_from l [] .nil).1
theorem union_covers (l : List R) (d : Int) : covers (unionR l) d = covers l d := by
  unfold unionR
  rw [(union_from l [] .nil).2]
  rfl
theorem union_is {l u : List R} (h : Norm u) (hc : ∀ d, covers u d = covers l d) : unionR l = u :=
  norm_unique (union_norm l) h fun d => by rw [union_covers, hc]

/-! ### taking one range out -/
theorem inter_has (a b : R) (d : Int) : ((interR a b).2 && hasR (interR a b).1 d) = (hasR a d && hasR b d) := by
  unfold interR
  split
  · rename_i h
    have h' := Bool.and_eq_true_iff.1 h
    have h2 := of_decide_eq_true h'.2
    rw [Bool.eq_iff_iff, Bool.true_and, Bool.and_eq_true_iff, has_iff, has_iff, has_iff]
    have h3 := Bool.and_eq_true_iff.1 h'.1
    simp [okR] at h3
    simp only
    omega
  · rename_i h
    rw [Bool.false_and]
    symm
    cases hh : (hasR a d && hasR b d)
    · rfl
    · rw [Bool.and_eq_true_iff, has_iff, has_iff] at hh
      exact absurd (by simp [okR]; omega) h
theorem inter_comm (a b : R) : interR a b = interR b a := by
  unfold interR
  rw [Int.max_comm a.1, Int.min_comm a.2, Bool.and_comm (okR a)]
theorem sub_spec (a b : R) : Norm (subR a b) ∧ (∀ x ∈ subR a b, a.1 ≤ x.1 ∧ x.2 ≤ a.2) ∧ (subR a b).length ≤ 2 ∧ ∀ d, covers (subR a b) d = (hasR a d && !hasR b d) := by
  unfold subR
  cases ha : neR a
  · rw [if_neg (by decide)]
    refine ⟨.nil, fun x h => (by cases h), by simp, fun d => ?_⟩
    have : hasR a d = false := by
      cases hh : hasR a d
      · rfl
      · rw [has_iff] at hh
        have := (ne_iff a).2 ⟨by omega, by omega, by omega⟩
        rw [ha] at this; cases this
    rw [this]; rfl
  · rw [if_pos rfl]
    have ea := (ne_iff a).1 ha
    have hi := inter_has a b
    cases hb : (interR a b).2
    · rw [if_neg (by decide)]
      rw [hb] at hi
      refine ⟨norm_cons.2 ⟨ha, fun y h => (by cases h), .nil⟩, fun x h => by simp at h; subst h; omega, by simp, fun d => ?_⟩
      have := hi d
      rw [Bool.false_and] at this
      rw [covers_cons]
      show (hasR a d || false) = _
      cases h1 : hasR a d <;> cases h2 : hasR b d <;> rw [h1, h2] at this <;> first | rfl | cases this
    · rw [if_pos rfl]
      have h := hb
      unfold interR at h
      split at h
      · rename_i hc
        have e : interR a b = ((max a.1 b.1, min a.2 b.2), true) := by unfold interR; rw [if_pos hc]
        have h' := Bool.and_eq_true_iff.1 hc
        have h2 := of_decide_eq_true h'.2
        have h3 := Bool.and_eq_true_iff.1 h'.1
        simp [okR] at h3
        rw [e]
        simp only
        by_cases c1 : a.1 < max a.1 b.1 <;> by_cases c2 : min a.2 b.2 < a.2
        · rw [if_pos c1, if_pos c2]
          refine ⟨norm_cons.2 ⟨by rw [ne_iff]; simp only; omega, fun y hy => ?_, norm_cons.2 ⟨by rw [ne_iff]; simp only; omega, fun y h => (by simp at h), .nil⟩⟩, fun x hx => ?_, by simp, fun d => ?_⟩
          · simp at hy; subst hy; simp only; omega
          · simp at hx; rcases hx with rfl | rfl <;> simp only <;> omega
          · rw [Bool.eq_iff_iff]
            simp [covers, hasR, okR]
            omega
        · rw [if_pos c1, if_neg c2]
          refine ⟨norm_cons.2 ⟨by rw [ne_iff]; simp only; omega, fun y h => (by simp at h), .nil⟩, fun x hx => ?_, by simp, fun d => ?_⟩
          · simp at hx; subst hx; simp only; omega
          · rw [Bool.eq_iff_iff]
            simp [covers, hasR, okR]
            omega
        · rw [if_neg c1, if_pos c2]
          refine ⟨norm_cons.2 ⟨by rw [ne_iff]; simp only; omega, fun y h => (by simp at h), .nil⟩, fun x hx => ?_, by simp, fun d => ?_⟩
          · simp at hx; subst hx; simp only; omega
          · rw [Bool.eq_iff_iff]
            simp [covers, hasR, okR]
            omega
        · rw [if_neg c1, if_neg c2]
          refine ⟨.nil, fun x hx => (by simp at hx), by simp, fun d => ?_⟩
          rw [Bool.eq_iff_iff]
          simp [covers, hasR, okR]
          omega
      · cases h
theorem cut_spec : ∀ (o : List R) (x : R), Norm o → Norm (o.flatMap fun y => subR y x) ∧ (∀ b : Int, (∀ y ∈ o, b < y.1) → ∀ z ∈ o.flatMap (fun y => subR y x), b < z.1) ∧ ∀ d, covers (o.flatMap fun y => subR y x) d = (covers o d && !hasR x d)
  | [], x, _ => ⟨.nil, fun b _ z h => by simp at h, fun d => rfl⟩
  | y :: o, x, h => by
    obtain ⟨h1, h2, h3⟩ := norm_cons.1 h
    obtain ⟨i1, i2, i3⟩ := cut_spec o x h3
    obtain ⟨s1, s2, -, s3⟩ := sub_spec y x
    rw [List.flatMap_cons]
    refine ⟨norm_append.2 ⟨s1, i1, fun a ha b hb => ?_⟩, fun b hb z hz => ?_, fun d => ?_⟩
    · have := (s2 a ha).2
      have := i2 y.2 h2 b hb
      omega
    · rcases List.mem_append.1 hz with hz | hz
      · have := (s2 z hz).1
        have := hb y (by simp)
        omega
      · exact i2 b (fun u hu => hb u (by simp [hu])) z hz
    · rw [covers_append, s3, i3, covers_cons]
      cases hasR y d <;> cases covers o d <;> cases hasR x d <;> rfl
theorem gaps_from : ∀ (l o : List R), Norm o → Norm (l.foldl (fun o x => o.flatMap fun y => subR y x) o) ∧ ∀ d, covers (l.foldl (fun o x => o.flatMap fun y => subR y x) o) d = (covers o d && !covers l d)
  | [], o, h => ⟨h, fun d => by simp [covers]⟩
  | x :: l, o, h => by
    rw [List.foldl_cons]
    obtain ⟨c1, -, c2⟩ := cut_spec o x h
    obtain ⟨h1, h2⟩ := gaps_from l _ c1
    refine ⟨h1, fun d => ?_⟩
    rw [h2, c2, covers_cons]
    cases covers o d <;> cases hasR x d <;> cases covers l d <;> rfl
theorem gaps_norm (l : List R) (w : R) : Norm (gapsR l w) := by
  unfold gapsR
  split
  · rename_i h
    exact (gaps_from l [w] (norm_cons.2 ⟨h, fun y h => (by cases h), .nil⟩)).1
  · exact .nil
theorem gaps_covers (l : List R) (w : R) (d : Int) : covers (gapsR l w) d = (hasR w d && !covers l d) := by
  unfold gapsR
  split
  · rename_i h
    rw [(gaps_from l [w] (norm_cons.2 ⟨h, fun y h => (by cases h), .nil⟩)).2]
    show ((hasR w d || false) && _) = _
    rw [Bool.or_false]
  · rename_i h
    have : hasR w d = false := by
      cases hh : hasR w d
      · rfl
      · rw [has_iff] at hh
        exact absurd ((ne_iff w).2 ⟨by omega, by omega, by omega⟩) h
    rw [this]; rfl
theorem gaps_is {l g : List R} {w : R} (h : Norm g) (hc : ∀ d, covers g d = (hasR w d && !covers l d)) : gapsR l w = g :=
  norm_unique (gaps_norm l w) h fun d => by rw [gaps_covers, hc]

/-! ### boundaries -/
def Up (l : List Int) : Prop := l.Pairwise (· < ·)
theorem up_unique : ∀ {l m : List Int}, Up l → Up m → (∀ x, x ∈ l ↔ x ∈ m) → l = m
  | [], [], _, _, _ => rfl
  | [], y :: m, _, _, h => by have := (h y).2 (by simp); cases this
  | x :: l, [], _, _, h => by have := (h x).1 (by simp); cases this
  | x :: l, y :: m, hl, hm, h => by
    obtain ⟨l1, l2⟩ := List.pairwise_cons.1 hl
    obtain ⟨m1, m2⟩ := List.pairwise_cons.1 hm
    have e : x = y := by
      have a := List.mem_cons.1 ((h x).1 (by simp))
      have b := List.mem_cons.1 ((h y).2 (by simp))
      rcases a with a | a
      · exact a
      · rcases b with b | b
        · exact b.symm
        · have := m1 x a
          have := l1 y b
          omega
    subst e
    rw [up_unique l2 m2 fun z => ?_]
    constructor
    · intro hz
      rcases List.mem_cons.1 ((h z).1 (by simp [hz])) with rfl | g
      · exact absurd (l1 z hz) (by omega)
      · exact g
    · intro hz
      rcases List.mem_cons.1 ((h z).2 (by simp [hz])) with rfl | g
      · exact absurd (m1 z hz) (by omega)
      · exact g
theorem ins_up {l : List Int} (n : Int) (h : Up l) : Up (insR l n) := by
  unfold insR Up
  rw [List.pairwise_append]
  refine ⟨List.Pairwise.filter _ h, List.pairwise_cons.2 ⟨fun y hy => by simp at hy; exact hy.2, List.Pairwise.filter _ h⟩, fun a ha b hb => ?_⟩
  simp at ha hb
  omega
theorem ins_mem (l : List Int) (n x : Int) : x ∈ insR l n ↔ x = n ∨ x ∈ l := by
  unfold insR
  simp only [List.mem_append, List.mem_cons, List.mem_filter, decide_eq_true_eq]
  constructor
  · rintro (h | h | h)
    · exact .inr h.1
    · exact .inl h
    · exact .inr h.1
  · rintro (h | h)
    · exact .inr (.inl h)
    · rcases Int.lt_trichotomy x n with g | g | g
      · exact .inl ⟨h, g⟩
      · exact .inr (.inl g)
      · exact .inr (.inr ⟨h, g⟩)
theorem bnd_from : ∀ (l : List R) (o : List Int), Up o → Up (l.foldl (fun o x => if neR x then insR (insR o x.1) x.2 else o) o) ∧ ∀ n, n ∈ l.foldl (fun o x => if neR x then insR (insR o x.1) x.2 else o) o ↔ n ∈ o ∨ ∃ x ∈ l, neR x = true ∧ (n = x.1 ∨ n = x.2)
  | [], o, h => ⟨h, fun n => by simp⟩
  | x :: l, o, h => by
    rw [List.foldl_cons]
    cases hx : neR x
    · rw [if_neg (by decide)]
      obtain ⟨h1, h2⟩ := bnd_from l o h
      refine ⟨h1, fun n => ?_⟩
      rw [h2]
      simp [hx]
    · rw [if_pos rfl]
      obtain ⟨h1, h2⟩ := bnd_from l _ (ins_up x.2 (ins_up x.1 h))
      refine ⟨h1, fun n => ?_⟩
      rw [h2, ins_mem, ins_mem]
      simp only [List.mem_cons, exists_eq_or_imp, hx, true_and]
      constructor
      · rintro ((a | a | a) | a)
        · exact .inr (.inl (.inr a))
        · exact .inr (.inl (.inl a))
        · exact .inl a
        · exact .inr (.inr a)
      · rintro (a | (a | a) | a)
        · exact .inl (.inr (.inr a))
        · exact .inl (.inr (.inl a))
        · exact .inl (.inl a)
        · exact .inr a
theorem bnd_up (l : List R) : Up (bndR l) := (bnd_from l [] .nil).1
theorem bnd_mem (l : List R) (n : Int) : n ∈ bndR l ↔ ∃ x ∈ l, neR x = true ∧ (n = x.1 ∨ n = x.2) := by
  unfold bndR
  rw [(bnd_from l [] .nil).2]
  simp
theorem bnd_is {l : List R} {o : List Int} (h : Up o) (hm : ∀ n, n ∈ o ↔ ∃ x ∈ l, neR x = true ∧ (n = x.1 ∨ n = x.2)) : bndR l = o :=
  up_unique (bnd_up l) h fun n => by rw [bnd_mem, hm]

/-! ### the order of the list does not matter -/
theorem union_perm {l m : List R} (h : ∀ x, x ∈ l ↔ x ∈ m) : unionR l = unionR m :=
  union_is (union_norm m) fun d => by
    rw [union_covers, Bool.eq_iff_iff, covers_iff, covers_iff]
    exact ⟨fun ⟨r, a, b⟩ => ⟨r, (h r).2 a, b⟩, fun ⟨r, a, b⟩ => ⟨r, (h r).1 a, b⟩⟩
theorem gaps_perm {l m : List R} (w : R) (h : ∀ x, x ∈ l ↔ x ∈ m) : gapsR l w = gapsR m w :=
  gaps_is (gaps_norm m w) fun d => by
    rw [gaps_covers]
    congr 2
    rw [Bool.eq_iff_iff, covers_iff, covers_iff]
    exact ⟨fun ⟨r, a, b⟩ => ⟨r, (h r).2 a, b⟩, fun ⟨r, a, b⟩ => ⟨r, (h r).1 a, b⟩⟩
theorem bnd_perm {l m : List R} (h : ∀ x, x ∈ l ↔ x ∈ m) : bndR l = bndR m :=
  bnd_is (bnd_up m) fun n => by
    rw [bnd_mem]
    exact ⟨fun ⟨r, a, b⟩ => ⟨r, (h r).2 a, b⟩, fun ⟨r, a, b⟩ => ⟨r, (h r).1 a, b⟩⟩
end Go.Proofs.Ytkecjegjdlmdkaa.rng
