/-
  The law MoneyAllocateSum walked.
-/
import Derived.Test.YtikcnekaefelcaaMoneyLaw3
namespace Go.Proofs.Ytikcnekaefelcaa.money
open Go Go.RowKit Go.Proofs.Ytikcnekaefelcaa.ints Go.Proofs.Ytikcnekaefelcaa.alloc
set_option linter.unusedVariables false

/-- what the law asks of the shares -/
structure Fine (c : Int) (ws l : List Int) : Prop where
  len : l.length = ws.length
  size : ∀ (i : Nat) (z : Int), l[i]? = some z → -1000000000000000 ≤ z ∧ z ≤ 1000000000000000
  sign : ∀ (i : Nat) (z : Int), l[i]? = some z → z ≠ 0 → decide (z < 0) = decide (c < 0)
  zero : ∀ (i : Nat) (z : Int), l[i]? = some z → ws[i]? = some 0 → z = 0
  more : ∀ (k i : Nat) (x y p q : Int), k < i → l[k]? = some x → l[i]? = some y → ws[k]? = some p → ws[i]? = some q → q ≤ p → (y.natAbs : Int) ≤ x.natAbs
  less : ∀ (k i : Nat) (x y p q : Int), k < i → l[k]? = some x → l[i]? = some y → ws[k]? = some p → ws[i]? = some q → p < q → (x.natAbs : Int) ≤ y.natAbs
  near : ∀ (k i : Nat) (x y p : Int), k < i → l[k]? = some x → l[i]? = some y → ws[k]? = some p → ws[i]? = some p → (x.natAbs : Int) - y.natAbs ≤ 1
  sum : tot l = c

theorem share_of {a S : Int} {ws : List Int} {i : Nat} {z : Int} (h : (shares a S ws)[i]? = some z) : i < ws.length ∧ z = shareAt a S ws i := by
  obtain ⟨hl, he⟩ := List.getElem?_eq_some_iff.1 h
  have hl2 : i < ws.length := by simpa [shares] using hl
  refine ⟨hl2, ?_⟩
  rw [← he]; simp [shares]
theorem weight_of {ws : List Int} {i : Nat} {p : Int} (h : ws[i]? = some p) : ws.getD i 0 = p := by rw [List.getD, h]; rfl
theorem tot_neg (l : List Int) : tot (l.map fun x => -x) = - tot l := by
  induction l with
  | nil => rfl
  | cons x l ih => rw [List.map_cons, tot_cons, tot_cons, ih]; omega
theorem neg_of {l : List Int} {i : Nat} {z : Int} (h : (l.map fun x => -x)[i]? = some z) : l[i]? = some (-z) := by
  rw [List.getElem?_map] at h
  obtain ⟨x, hx, rfl⟩ := Option.map_eq_some_iff.1 h
  rw [hx, Int.neg_neg]

theorem fine_shares {a S : Int} {ws : List Int} (hS : tot ws = S) (h0 : 0 < S) (ha : 0 ≤ a) (ha1 : a ≤ 1000000000000000) (hw : ∀ x ∈ ws, 0 ≤ x) : Fine a ws (shares a S ws) where
  len := by simp [shares]
  size i z h := by
    obtain ⟨hi, rfl⟩ := share_of h
    have := share_nonneg (S := S) ha h0 hw hi
    have := share_le (a := a) hS ha h0 hw hi
    omega
  sign i z h hz := by
    obtain ⟨hi, rfl⟩ := share_of h
    have := share_nonneg (S := S) ha h0 hw hi
    rw [decide_eq_false (by omega), decide_eq_false (by omega)]
  zero i z h hi0 := by
    obtain ⟨hi, rfl⟩ := share_of h
    exact share_zero hS h0 hi (weight_of hi0)
  more k i x y p q hki hx hy hp hq hqp := by
    obtain ⟨hk, rfl⟩ := share_of hx
    obtain ⟨hi, rfl⟩ := share_of hy
    have := share_nonneg (S := S) ha h0 hw hk
    have := share_nonneg (S := S) ha h0 hw hi
    have := share_mono (a := a) (S := S) ha h0 hk hi (by rw [weight_of hp, weight_of hq]; omega)
    omega
  less k i x y p q hki hx hy hp hq hqp := by
    obtain ⟨hk, rfl⟩ := share_of hx
    obtain ⟨hi, rfl⟩ := share_of hy
    have := share_nonneg (S := S) ha h0 hw hk
    have := share_nonneg (S := S) ha h0 hw hi
    have := share_mono (a := a) (S := S) ha h0 hi hk (by rw [weight_of hp, weight_of hq]; omega)
    omega
  near k i x y p hki hx hy hp hq := by
    obtain ⟨hk, rfl⟩ := share_of hx
    obtain ⟨hi, rfl⟩ := share_of hy
    have := share_nonneg (S := S) ha h0 hw hk
    have := share_nonneg (S := S) ha h0 hw hi
    have := share_near (a := a) (S := S) (ws := ws) (k := k) (i := i) (by rw [weight_of hp, weight_of hq])
    omega
  sum := shares_tot hS h0

theorem Fine.neg {c : Int} {ws l : List Int} (h : Fine c ws l) (hp : 0 < c) (hn : ∀ (i : Nat) (z : Int), l[i]? = some z → 0 ≤ z) : Fine (-c) ws (l.map fun x => -x) where
  len := by rw [List.length_map, h.len]
  size i z hz := by have := h.size i _ (neg_of hz); omega
  sign i z hz h0 := by
    have := hn i _ (neg_of hz)
    rw [decide_eq_true (by omega), decide_eq_true (by omega)]
  zero i z hz hw := by have := h.zero i _ (neg_of hz) hw; omega
  more k i x y p q a b c d e f := by have := h.more k i _ _ p q a (neg_of b) (neg_of c) d e f; omega
  less k i x y p q a b c d e f := by have := h.less k i _ _ p q a (neg_of b) (neg_of c) d e f; omega
  near k i x y p a b c d e := by have := h.near k i _ _ p a (neg_of b) (neg_of c) d e; omega
  sum := by rw [tot_neg, h.sum]

/-- an allocation either names an error, and then there are no shares, or its shares are as they should be -/
theorem allocR_fine {c : Int} {ws l : List Int} {k : Int} (h : allocR c ws = (l, k)) : (k ≠ 0 ∧ l = []) ∨ (k = 0 ∧ Fine c ws l) := by
  unfold allocR at h
  cases hb : beyond c 1000000000000000
  · rw [hb, if_neg (by decide)] at h
    cases hw : ws.all okW
    · rw [hw, if_pos (by decide)] at h; cases h; exact .inl ⟨by decide, rfl⟩
    · rw [hw, if_neg (by decide)] at h
      by_cases h64 : 64 < ws.length
      · rw [if_pos h64] at h; cases h; exact .inl ⟨by decide, rfl⟩
      · rw [if_neg h64] at h
        by_cases h0 : tot ws = 0
        · rw [if_pos h0] at h; cases h; exact .inl ⟨by decide, rfl⟩
        · rw [if_neg h0] at h
          right
          have hcb := beyond_in hb
          have hT := (tot_all hw).1
          have hww : ∀ x ∈ ws, 0 ≤ x := fun x hx => (okW_iff.1 (List.all_eq_true.1 hw x hx)).1
          have hf := fine_shares (a := (c.natAbs : Int)) (ws := ws) rfl (by omega) (by omega) (by omega) hww
          simp only [Prod.mk.injEq] at h
          obtain ⟨h, rfl⟩ := h
          refine ⟨rfl, ?_⟩
          by_cases hc : c < 0
          · rw [if_pos hc] at h
            subst h
            have := hf.neg (by omega) (fun i z hz => by
              obtain ⟨hi, rfl⟩ := share_of hz
              exact share_nonneg (by omega) (by omega) hww hi)
            rwa [show -((c.natAbs : Nat) : Int) = c by omega] at this
          · rw [if_neg hc] at h
            subst h
            rwa [show ((c.natAbs : Nat) : Int) = c by omega] at hf ⊢
  · rw [hb, if_pos rfl] at h; cases h; exact .inl ⟨by decide, rfl⟩
end Go.Proofs.Ytikcnekaefelcaa.money
