/-
  Slices of date ranges: when a value reads as a list of ranges; append of one range; what the comparison of two such slices answers.
-/
import Derived.Test.YtpdgdcdoaglimaaRngRef
namespace Go.Proofs.Ytpdgdcdoaglimaa.rng
open Go Go.RowKit Go.Proofs.Ytpdgdcdoaglimaa.money
set_option linter.unusedVariables false
set_option linter.unusedSimpArgs false

def cellsR (l : List R) : List Value := l.flatMap fun r => [.int .i64 r.1, .int .i64 r.2]
theorem cellsR_length (l : List R) : (cellsR l).length = l.length * 2 := by
  induction l with
  | nil => rfl
  | cons a l ih => unfold cellsR at ih ⊢; rw [List.flatMap_cons, List.length_append, ih]; simp; omega
theorem cellsR_append (l m : List R) : cellsR (l ++ m) = cellsR l ++ cellsR m := by unfold cellsR; rw [List.flatMap_append]
theorem cellsR_at : ∀ {l : List R} {i : Nat} {r : R}, l[i]? = some r → (cellsR l)[i * 2]? = some (.int .i64 r.1) ∧ (cellsR l)[i * 2 + 1]? = some (.int .i64 r.2)
  | [], i, r, h => by simp at h
  | a :: l, 0, r, h => by simp at h; subst h; exact ⟨rfl, rfl⟩
  | a :: l, i + 1, r, h => by
    have h' : l[i]? = some r := by simpa using h
    obtain ⟨h1, h2⟩ := cellsR_at h'
    have e : cellsR (a :: l) = [.int .i64 a.1, .int .i64 a.2] ++ cellsR l := by unfold cellsR; rw [List.flatMap_cons]
    rw [e, show (i + 1) * 2 = 2 + i * 2 by omega, show 2 + i * 2 + 1 = 2 + (i * 2 + 1) by omega]
    rw [List.getElem?_append_right (by simp), List.getElem?_append_right (by simp)]
    simp only [List.length_cons, List.length_nil]
    rw [show 2 + i * 2 - (0 + 1 + 1) = i * 2 by omega, show 2 + (i * 2 + 1) - (0 + 1 + 1) = i * 2 + 1 by omega]
    exact ⟨h1, h2⟩

/-- The value is a slice of ranges that reads as this list. -/
def Rgs (w : World) (v : Value) (l : List R) : Prop :=
  l.length ≤ 2305843009213693952 ∧
  ((l = [] ∧ ∃ A c, v = .slice A 0 c) ∨ ∃ g off c, v = .slice (some ⟨g, off, none⟩) l.length c ∧ g < w.heap.size ∧ ∀ i r, l[i]? = some r → w.cell? ⟨g, off + i * 2, none⟩ = some (.int .i64 r.1) ∧ w.cell? ⟨g, off + i * 2 + 1, none⟩ = some (.int .i64 r.2))

theorem Rgs.below {w w' : World} {v : Value} {l : List R} (h : Rgs w v l) (hb : Below w.heap.size w w') : Rgs w' v l := by
  obtain ⟨hl, h⟩ := h
  refine ⟨hl, ?_⟩
  rcases h with h | ⟨g, off, c, hv, hg, hc⟩
  · exact .inl h
  · refine .inr ⟨g, off, c, hv, Nat.lt_of_lt_of_le hg hb.size, fun i r hi => ?_⟩
    rw [hb.cell (p := ⟨g, off + i * 2, none⟩) hg, hb.cell (p := ⟨g, off + i * 2 + 1, none⟩) hg]
    exact hc i r hi
theorem Rgs.nil (w : World) (A : Option Addr) (c : Nat) : Rgs w (.slice A 0 c) [] := ⟨by simp, .inl ⟨rfl, A, c, rfl⟩⟩
theorem Rgs.of_own {w : World} {base e : Nat} {v : Value} {l : List R} (h : w.ownsRow base e 2 v l.length (cellsR l)) (hl : l.length ≤ 2305843009213693952) : Rgs w v l := by
  refine ⟨hl, ?_⟩
  have hlt := h.lt
  have hcs := fun g => h.cells (g := g)
  rcases h.2 with ⟨rfl, hn⟩ | ⟨g, cap, cur, rfl, _, _, _⟩
  · left
    exact ⟨List.eq_nil_of_length_eq_zero hn, none, 0, rfl⟩
  · right
    refine ⟨g, 0, cap, rfl, (hlt g rfl).2, fun i r hi => ?_⟩
    obtain ⟨e1, e2⟩ := cellsR_at hi
    have h1 := hcs g rfl _ _ e1
    have h2 := hcs g rfl _ _ e2
    have f : ∀ k, (⟨g, 0, none⟩ : Addr).add k = ⟨g, 0 + k, none⟩ := fun k => by unfold Addr.add; split <;> simp_all
    rw [f] at h1 h2
    exact ⟨h1, h2⟩
theorem Rgs.form {w : World} {v : Value} {l : List R} (h : Rgs w v l) (hn : 0 < l.length) : ∃ g off c, v = .slice (some ⟨g, off, none⟩) l.length c ∧ g < w.heap.size ∧ ∀ i r, l[i]? = some r → w.cell? ⟨g, off + i * 2, none⟩ = some (.int .i64 r.1) ∧ w.cell? ⟨g, off + i * 2 + 1, none⟩ = some (.int .i64 r.2) := by
  rcases h.2 with ⟨rfl, _⟩ | h
  · simp at hn
  · exact h
theorem Rgs.form0 {w : World} {v : Value} {l : List R} (h : Rgs w v l) : ∃ A c, v = .slice A l.length c := by
  rcases h.2 with ⟨rfl, A, c, rfl⟩ | ⟨g, off, c, hv, _⟩
  · exact ⟨A, c, rfl⟩
  · exact ⟨_, c, hv⟩

theorem rInfo : (Try.prog.info? 23).map (fun i => (i.zero, i.size, i.bytes)) = some (some (.agg #[.int .i64 0, .int .i64 0]), 2, 16) := by kernel_rfl

set_option maxHeartbeats 800000 in
theorem DateRanges_is (va vb : Value) (la lb : List R) (b : Bool) (w : World) (ha : Rgs w va la) (hb : Rgs w vb lb) (h : decide (la = lb) = b) :
    Calls Try.prog 15 #[va, vb] w fun e w' => e = .returned (.bool b) ∧ Below w.heap.size w w' := by
  obtain ⟨A, ca, hva⟩ := ha.form0
  obtain ⟨B, cb, hvb⟩ := hb.form0
  have hm := ha.1
  have hm' := hb.1
  by_cases hl : la.length = lb.length
  · have HL := Lib.hid hl
    have HA := Lib.hid ha
    have HB := Lib.hid hb
    have H := Lib.hid h
    obtain ⟨n, hn⟩ : ∃ n, la.length = n := ⟨_, rfl⟩
    have hn2 : lb.length = n := by omega
    rw [hn] at hva hm
    rw [hn2] at hvb hm'
    subst hva hvb
    have HN := Lib.hid hn
    have HN2 := Lib.hid hn2
    clear hn hn2 hl ha hb h
    go_enter Try.func15, Try.ntmps15
    go_wp2
    go_loopw [5] (fun v wr => ∃ i k : Nat, i ≤ n ∧ wr = w.drewN k ∧ v = .int .i64 i ∧ la.take i = lb.take i) (fun v _ => n - (intOf v).toNat)
    case atStart => exact ⟨0, 0, Nat.zero_le _, rfl, rfl, by simp⟩
    case round =>
      obtain ⟨i, k, hi, rfl, rfl, ht⟩ := hrel
      have HT := Lib.hid ht
      clear ht
      by_cases hlt : i < n
      · obtain ⟨ga, oa, xa, hva, hga, hca⟩ := HA.out.form (by have := HN.out; omega)
        obtain ⟨gb, ob, xb, hvb, hgb, hcb⟩ := HB.out.form (by have := HN2.out; omega)
        simp only [Value.slice.injEq] at hva hvb
        obtain ⟨rfl, -, -⟩ := hva
        obtain ⟨rfl, -, -⟩ := hvb
        obtain ⟨⟨x0, x1⟩, hx⟩ : ∃ x, la[i]? = some x := ⟨_, List.getElem?_eq_getElem (by have := HN.out; omega)⟩
        obtain ⟨⟨y0, y1⟩, hy⟩ : ∃ y, lb[i]? = some y := ⟨_, List.getElem?_eq_getElem (by have := HN2.out; omega)⟩
        obtain ⟨c1, c2⟩ := hca i _ hx
        obtain ⟨c3, c4⟩ := hcb i _ hy
        simp only at c1 c2 c3 c4
        have HX := Lib.hid hx
        have HY := Lib.hid hy
        clear hca hcb hx hy
        have differ : (x0, x1) ≠ (y0, y1) → b = false := by
          intro hne
          rw [← H.out, decide_eq_false_iff_not]
          intro e
          have h1 := HX.out
          rw [e, HY.out] at h1
          exact hne (Option.some.inj h1).symm
        by_cases e0 : x0 = y0
        · by_cases e1 : x1 = y1
          · subst e0 e1
            clear differ
            go_wp2_with fail
            go_quiet (fail)
            go_wp2
            go_roundw
            case rel =>
              refine ⟨i + 1, _, by omega, rfl, by go_num, ?_⟩
              rw [List.take_add_one, List.take_add_one, HX.out, HY.out, HT.out]
            case measure => simp [intOf]; omega
          · have D := Lib.hid (differ (fun e => e1 (Prod.mk.inj e).2))
            clear differ
            go_wp2_with fail
            go_quiet (fail)
            go_wp2
            go_ret
            exact ⟨ret_bool D.out.symm, below_drewN (below_drewN (Below.refl _ _) _) _⟩
        · have D := Lib.hid (differ (fun e => e0 (Prod.mk.inj e).1))
          clear differ
          go_wp2_with fail
          go_quiet (fail)
          go_wp2
          go_ret
          exact ⟨ret_bool D.out.symm, below_drewN (below_drewN (Below.refl _ _) _) _⟩
      · obtain rfl : i = n := by omega
        go_wp2
        go_ret
        refine ⟨ret_bool ?_, below_drewN (Below.refl _ _) _⟩
        rw [← H.out]
        symm
        rw [decide_eq_true_eq]
        have h1 := HT.out
        rw [List.take_of_length_le (by have := HN.out; omega), List.take_of_length_le (by have := HN2.out; omega)] at h1
        exact h1
  · have hne : b = false := by
      rw [← h, decide_eq_false_iff_not]; intro e; rw [e] at hl; exact hl rfl
    have H := Lib.hid hne
    have h1 : ((la.length : Int) != (lb.length : Int)) = true := by simp; omega
    subst hva hvb
    clear h hl hne ha hb
    go_enter Try.func15, Try.ntmps15
    go_wp2
    go_ret
    exact ⟨ret_bool H.out.symm, Below.refl _ _⟩

/-- append of one range to a slice of the call's own -/
theorem wpList_append_rng {ops : Array Oper} {rest : List Oper} {o : Oper} {a : Act} {Q : Exit → Act → World → Prop} {W : World} (hgd : o.guard = none) (s x : Operand)
    (ho : o.op = .call { callee := .builtin .append, args := #[s, x], argTypes := #[29, 29] })
    (base : Nat) (v : Value) (l : List R) (hs : a.eval s = v) (hown : W.ownsRow base 23 2 v l.length (cellsR l))
    (p q : Int) (hx : a.eval x = .slice (some ⟨W.heap.size, 0, none⟩) 1 1) (hlen : l.length ≤ 1000000) (hb : base ≤ W.heap.size)
    (h : ∀ v' w', w'.ownsRow base 23 2 v' (l ++ [(p, q)]).length (cellsR (l ++ [(p, q)])) → (W.alloc (.cells #[.int .i64 p, .int .i64 q] 23)).grownBy w' v.ownBlock → wpList Try.prog ops Q rest (a.put o.dst v') w') :
    wpList Try.prog ops Q (o :: rest) a (W.alloc (.cells #[.int .i64 p, .int .i64 q] 23)) := by
  obtain ⟨i0, hi, hz0, hz1, hz2⟩ := info_parts rInfo
  refine wpList_append_own _ hgd s x 29 ho base 23 i0 (.agg #[.int .i64 0, .int .i64 0]) 2 16 Try.underlying29 hi hz0 hz1 hz2 rfl (by decide) v l.length (cellsR l) hs (hown.alloc _)
    ⟨W.heap.size, 0, none⟩ 1 1 [.int .i64 p, .int .i64 q] hx rfl ?_ (by simp [Value.oneCell']) (by unfold maxLen; omega) (by omega) (by simp; omega) ?_
  · intro j u hj
    match j with
    | 0 => simp at hj; subst hj; simp [Addr.add, go_sem]
    | 1 => simp at hj; subst hj; simp [Addr.add, go_sem]
    | j + 2 => simp at hj
  · intro v' w' h2 h3 _
    refine h v' w' ?_ h3
    rw [List.length_append, cellsR_append]
    exact h2

/-- the same, the temporary's block named otherwise -/
theorem wpList_append_rng_k {ops : Array Oper} {rest : List Oper} {o : Oper} {a : Act} {Q : Exit → Act → World → Prop} {W : World} (hgd : o.guard = none) (s x : Operand)
    (ho : o.op = .call { callee := .builtin .append, args := #[s, x], argTypes := #[29, 29] })
    (base : Nat) (v : Value) (l : List R) (hs : a.eval s = v) (hown : W.ownsRow base 23 2 v l.length (cellsR l))
    (p q : Int) (k : Nat) (hx : a.eval x = .slice (some ⟨k, 0, none⟩) 1 1) (hk : k = W.heap.size) (hlen : l.length ≤ 1000000) (hb : base ≤ W.heap.size)
    (h : ∀ v' w', w'.ownsRow base 23 2 v' (l ++ [(p, q)]).length (cellsR (l ++ [(p, q)])) → (W.alloc (.cells #[.int .i64 p, .int .i64 q] 23)).grownBy w' v.ownBlock → wpList Try.prog ops Q rest (a.put o.dst v') w') :
    wpList Try.prog ops Q (o :: rest) a (W.alloc (.cells #[.int .i64 p, .int .i64 q] 23)) := by
  subst hk
  exact wpList_append_rng hgd s x ho base v l hs hown p q hx hlen hb h
end Go.Proofs.Ytpdgdcdoaglimaa.rng
