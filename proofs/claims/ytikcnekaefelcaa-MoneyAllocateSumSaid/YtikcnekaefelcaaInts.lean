/-
  Slices of integers: when a value reads as a list of integers; append of one integer; what the comparison of two such slices answers.
-/
import Derived.Test.YtikcnekaefelcaaRows
import Derived.WalkKit
import Derived.WalkLawsBesides
import Derived.WalkSpells
import Derived.Lib.Hide
import Derived.WalkSmall
import Derived.Deep.QuietTactic
import Derived.BigQuiet
import Derived.OwnWalk
namespace Go.Proofs.Ytikcnekaefelcaa.ints
open Go Go.RowKit
set_option linter.unusedVariables false

def intV (z : Int) : Value := .int .i64 z

/-- The value is a slice of integers that reads as this list. -/
def Ints (w : World) (v : Value) (zs : List Int) : Prop :=
  zs.length ≤ 4611686018427387904 ∧
  ((zs = [] ∧ ∃ A c, v = .slice A 0 c) ∨ ∃ g off c, v = .slice (some ⟨g, off, none⟩) zs.length c ∧ g < w.heap.size ∧ ∀ i z, zs[i]? = some z → w.cell? ⟨g, off + i, none⟩ = some (.int .i64 z))

theorem Ints.below {w w' : World} {v : Value} {zs : List Int} (h : Ints w v zs) (hb : Below w.heap.size w w') : Ints w' v zs := by
  obtain ⟨hl, h⟩ := h
  refine ⟨hl, ?_⟩
  rcases h with h | ⟨g, off, c, hv, hg, hc⟩
  · exact .inl h
  · refine .inr ⟨g, off, c, hv, Nat.lt_of_lt_of_le hg hb.size, fun i l hi => ?_⟩
    rw [hb.cell (p := ⟨g, off + i, none⟩) hg]
    exact hc i l hi
theorem Ints.nil (w : World) (A : Option Addr) (c : Nat) : Ints w (.slice A 0 c) [] := ⟨by simp, .inl ⟨rfl, A, c, rfl⟩⟩
theorem Ints.of_own {w : World} {base e : Nat} {v : Value} {zs : List Int} (h : w.ownsRow base e 1 v zs.length (zs.map intV)) (hl : zs.length ≤ 4611686018427387904) : Ints w v zs := by
  refine ⟨hl, ?_⟩
  have hlt := h.lt
  have hcs := fun g => h.cells (g := g)
  rcases h.2 with ⟨rfl, hn⟩ | ⟨g, cap, cur, rfl, _, _, _⟩
  · left
    exact ⟨List.eq_nil_of_length_eq_zero hn, none, 0, rfl⟩
  · right
    refine ⟨g, 0, cap, rfl, (hlt g rfl).2, fun i l hi => ?_⟩
    have := hcs g rfl i (intV l) (by rw [List.getElem?_map, hi]; rfl)
    have e : (⟨g, 0, none⟩ : Addr).add i = ⟨g, 0 + i, none⟩ := by unfold Addr.add; split <;> simp_all
    rw [← e]; exact this
theorem Ints.form {w : World} {v : Value} {zs : List Int} (h : Ints w v zs) (hn : 0 < zs.length) : ∃ g off c, v = .slice (some ⟨g, off, none⟩) zs.length c ∧ g < w.heap.size ∧ ∀ i z, zs[i]? = some z → w.cell? ⟨g, off + i, none⟩ = some (.int .i64 z) := by
  rcases h.2 with ⟨rfl, _⟩ | h
  · simp at hn
  · exact h
theorem Ints.form0 {w : World} {v : Value} {zs : List Int} (h : Ints w v zs) : ∃ A c, v = .slice A zs.length c := by
  rcases h.2 with ⟨rfl, A, c, rfl⟩ | ⟨g, off, c, hv, _⟩
  · exact ⟨A, c, rfl⟩
  · exact ⟨_, c, hv⟩

theorem intInfo : (Try.prog.info? 3).map (fun i => (i.zero, i.size, i.bytes)) = some (some (.int .i64 0), 1, 8) := by kernel_rfl

/-- append of one integer to a slice of the call's own -/
theorem wpList_append_int {ops : Array Oper} {rest : List Oper} {o : Oper} {a : Act} {Q : Exit → Act → World → Prop} {W : World} (hgd : o.guard = none) (s x : Operand)
    (ho : o.op = .call { callee := .builtin .append, args := #[s, x], argTypes := #[29, 29] })
    (base : Nat) (v : Value) (zs : List Int) (hs : a.eval s = v) (hown : W.ownsRow base 3 1 v zs.length (zs.map intV))
    (z : Int) (hx : a.eval x = .slice (some ⟨W.heap.size, 0, none⟩) 1 1) (hlen : zs.length ≤ 1000000) (hb : base ≤ W.heap.size)
    (h : ∀ v' w', w'.ownsRow base 3 1 v' (zs ++ [z]).length ((zs ++ [z]).map intV) → (W.alloc (.cells #[.int .i64 z] 3)).grownBy w' v.ownBlock → wpList Try.prog ops Q rest (a.put o.dst v') w') :
    wpList Try.prog ops Q (o :: rest) a (W.alloc (.cells #[.int .i64 z] 3)) := by
  obtain ⟨i0, hi, hz0, hz1, hz2⟩ := info_parts intInfo
  refine wpList_append_own _ hgd s x 29 ho base 3 i0 (.int .i64 0) 1 8 Try.underlying29 hi hz0 hz1 hz2 rfl (by decide) v zs.length (zs.map intV) hs (hown.alloc _)
    ⟨W.heap.size, 0, none⟩ 1 1 [.int .i64 z] hx rfl (cell_one_new _ _ _) (by simp [Value.oneCell']) (by unfold maxLen; omega) (by omega) (by simp; omega) ?_
  intro v' w' h2 h3 _
  refine h v' w' ?_ h3
  rw [List.length_append, List.map_append, List.map_cons, List.map_nil]
  exact h2

theorem ret_bool {a b : Bool} (h : a = b) : Ending.returned (.bool a) = Ending.returned (.bool b) := by rw [h]

set_option maxHeartbeats 800000 in
theorem Ints_is (va vb : Value) (la lb : List Int) (b : Bool) (w : World) (ha : Ints w va la) (hb : Ints w vb lb) (h : decide (la = lb) = b) :
    Calls Try.prog 19 #[va, vb] w fun e w' => e = .returned (.bool b) ∧ Below w.heap.size w w' := by
  obtain ⟨A, ca, hva⟩ := ha.form0
  obtain ⟨B, cb, hvb⟩ := hb.form0
  have hm := ha.1
  have hm' := hb.1
  by_cases hl : la.length = lb.length
  · have HL := Lib.hid hl
    have HA := Lib.hid ha
    have HB := Lib.hid hb
    have H := Lib.hid h
    obtain ⟨n, hn⟩ : ∃ n, la.length = n := ⟨_, rfl⟩
    have hn2 : lb.length = n := by omega
    rw [hn] at hva hm
    rw [hn2] at hvb hm'
    subst hva hvb
    have HN := Lib.hid hn
    have HN2 := Lib.hid hn2
    clear hn hn2 hl ha hb h
    go_enter Try.func19, Try.ntmps19
    go_wp2
    go_loopw [5] (fun v wr => ∃ i k : Nat, i ≤ n ∧ wr = w.drewN k ∧ v = .int .i64 i ∧ la.take i = lb.take i) (fun v _ => n - (intOf v).toNat)
    case atStart => exact ⟨0, 0, Nat.zero_le _, rfl, rfl, by simp⟩
    case round =>
      obtain ⟨i, k, hi, rfl, rfl, ht⟩ := hrel
      have HT := Lib.hid ht
      clear ht
      by_cases hlt : i < n
      · obtain ⟨ga, oa, xa, hva, hga, hca⟩ := HA.out.form (by have := HN.out; omega)
        obtain ⟨gb, ob, xb, hvb, hgb, hcb⟩ := HB.out.form (by have := HN2.out; omega)
        simp only [Value.slice.injEq] at hva hvb
        obtain ⟨rfl, -, -⟩ := hva
        obtain ⟨rfl, -, -⟩ := hvb
        obtain ⟨x, hx⟩ : ∃ x, la[i]? = some x := ⟨_, List.getElem?_eq_getElem (by have := HN.out; omega)⟩
        obtain ⟨y, hy⟩ : ∃ y, lb[i]? = some y := ⟨_, List.getElem?_eq_getElem (by have := HN2.out; omega)⟩
        have c1 := hca i x hx
        have c2 := hcb i y hy
        have HX := Lib.hid hx
        have HY := Lib.hid hy
        clear hca hcb hx hy
        cases hxy : (x == y)
        · have hne : (x != y) = true := by unfold bne; rw [hxy]; rfl
          go_wp2_with fail
          go_quiet (fail)
          go_wp2
          go_ret
          refine ⟨ret_bool ?_, below_drewN (below_drewN (Below.refl _ _) _) _⟩
          rw [← H.out]
          symm
          rw [decide_eq_false_iff_not]
          intro e
          have h1 := HX.out
          rw [e, HY.out] at h1
          cases h1
          simp at hxy
        · have hne : (x != y) = false := by unfold bne; rw [hxy]; rfl
          go_wp2_with fail
          go_quiet (fail)
          go_wp2
          go_roundw
          case rel =>
            refine ⟨i + 1, _, by omega, rfl, by go_num, ?_⟩
            rw [List.take_add_one, List.take_add_one, HX.out, HY.out, HT.out, eq_of_beq hxy]
          case measure => simp [intOf]; omega
      · obtain rfl : i = n := by omega
        go_wp2
        go_ret
        refine ⟨ret_bool ?_, below_drewN (Below.refl _ _) _⟩
        rw [← H.out]
        symm
        rw [decide_eq_true_eq]
        have h1 := HT.out
        rw [List.take_of_length_le (by have := HN.out; omega), List.take_of_length_le (by have := HN2.out; omega)] at h1
        exact h1
  · have hne : b = false := by
      rw [← h, decide_eq_false_iff_not]; intro e; rw [e] at hl; exact hl rfl
    have H := Lib.hid hne
    have h1 : ((la.length : Int) != (lb.length : Int)) = true := by simp; omega
    subst hva hvb
    clear h hl hne ha hb
    go_enter Try.func19, Try.ntmps19
    go_wp2
    go_ret
    exact ⟨ret_bool H.out.symm, Below.refl _ _⟩
end Go.Proofs.Ytikcnekaefelcaa.ints
