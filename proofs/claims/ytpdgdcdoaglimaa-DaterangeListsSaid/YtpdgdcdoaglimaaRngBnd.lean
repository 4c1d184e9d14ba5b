/-
  The reference's Boundaries walked.
-/
import Derived.Test.YtpdgdcdoaglimaaRngIns
import Derived.Deep.RegionWith
import Derived.RegionTactic
namespace Go.Proofs.Ytpdgdcdoaglimaa.rng
open Go Go.RowKit Go.Proofs.Ytpdgdcdoaglimaa.money Go.Proofs.Ytpdgdcdoaglimaa.ints
set_option linter.unusedVariables false
set_option linter.unusedSimpArgs false

theorem up_length : ∀ {l : List Int} (b : Int), Up l → (∀ y ∈ l, b ≤ y ∧ y ≤ 109573) → b + l.length ≤ max b 109574
  | [], b, _, _ => by simp; omega
  | x :: l, b, h, hb => by
    obtain ⟨h1, h2⟩ := List.pairwise_cons.1 h
    have := hb x (by simp)
    have := up_length (b + 1) h2 (fun y hy => by have := h1 y hy; have := hb y (by simp [hy]); omega)
    rw [List.length_cons]
    omega
theorem bnd_short (l : List R) : (bndR l).length ≤ 109574 := by
  have := up_length 0 (bnd_up l) (fun y hy => by
    obtain ⟨x, _, h1, h2⟩ := (bnd_mem l y).1 hy
    rw [ne_iff] at h1
    omega)
  omega
theorem ins_length (l : List Int) (n : Int) : (insR l n).length ≤ 2 * l.length + 1 := by
  unfold insR
  rw [List.length_append, List.length_cons]
  have h1 := List.length_filter_le (fun x : Int => decide (x < n)) l
  have h2 := List.length_filter_le (fun x : Int => decide (n < x)) l
  omega

def stepB (o : List Int) (x : R) : List Int := if neR x then insR (insR o x.1) x.2 else o
theorem bnd_take {l : List R} {k : Nat} {x : R} (h : l[k]? = some x) : (l.take (k + 1)).foldl stepB [] = stepB ((l.take k).foldl stepB []) x := by
  rw [List.take_add_one, h]; simp

set_option maxHeartbeats 2000000 in
theorem rBoundaries_is (vl : Value) (l : List R) (res : List Int) (w : World) (hl : Rgs w vl l) (hn : l.length ≤ 110000) (h : bndR l = res) :
    Calls Try.prog 26 #[vl] w (GivesN w res) := by
  obtain ⟨A, c, rfl⟩ := hl.form0
  obtain ⟨n, hn'⟩ : ∃ n, l.length = n := ⟨_, rfl⟩
  rw [hn'] at hn hl ⊢
  have HN := Lib.hid hn'
  have HL := Lib.hid hl
  have H := Lib.hid h
  clear h hl hn'
  go_enter Try.func26, Try.ntmps26
  go_wp2
  go_loopw [3, 4] (fun v i wr => ∃ (k : Nat) (o : List Int), k ≤ n ∧ i = .int .i64 k ∧ o = (l.take k).foldl stepB [] ∧ Ints wr v o ∧ Below w.heap.size w wr) (fun _ i _ => n - (intOf i).toNat)
  case atStart => exact ⟨0, [], Nat.zero_le _, rfl, rfl, Ints.nil _ _ _, Below.refl _ _⟩
  case round =>
    obtain ⟨k, o, hk, rfl, ho, hr, hb⟩ := hrel
    have HO := Lib.hid ho
    have HR := Lib.hid hr
    have HB := Lib.hid hb
    clear ho hr hb
    by_cases hlt : k < n
    · obtain ⟨g, off, x0, x1, rfl, hx, c0, c1⟩ := HL.out.at HB.out hlt HN.out
      have HX := Lib.hid hx
      clear hx
      obtain ⟨b, hne⟩ : ∃ b, neR (x0, x1) = b := ⟨_, rfl⟩
      have HE := Lib.hid hne
      clear hne
      have hgw : g < wr.heap.size := by
        obtain ⟨g', off', c', hv, hg, hc⟩ := (HL.out.below HB.out).form (by have := HN.out; omega)
        simp only [Value.slice.injEq, Option.some.injEq, Addr.mk.injEq] at hv
        omega
      cases b
      · go_wp2_with (go_at_call 30; refine (rNonempty_is x0 x1 false _ HE.out).mono ?_; rintro e w1 ⟨rfl, hb1⟩)
        go_roundw
        case rel =>
          refine ⟨k + 1, o, by omega, by go_num, ?_, HR.out.below hb1, tr HB.out hb1⟩
          rw [bnd_take HX.out, ← HO.out]
          unfold stepB
          rw [HE.out, if_neg (by decide)]
        case measure => simp [intOf]; omega
      · obtain ⟨q, hq⟩ : ∃ q, insR o x0 = q := ⟨_, rfl⟩
        obtain ⟨r, hr⟩ : ∃ r, insR q x1 = r := ⟨_, rfl⟩
        have hol : o.length ≤ 109574 := by
          have h1 := bnd_short (l.take k)
          rw [show bndR (l.take k) = o from HO.out.symm] at h1
          exact h1
        have hql : q.length ≤ 110000 := by
          have e0 : Up q := by rw [← hq, HO.out]; exact ins_up x0 (bnd_up (l.take k))
          have := up_length 0 e0 (fun y hy => by
            rw [← hq, ins_mem, HO.out] at hy
            have hx2 := (ne_iff _).1 HE.out
            simp only at hx2
            rcases hy with rfl | hy
            · omega
            · obtain ⟨x, _, h1, h2⟩ := (bnd_mem (l.take k) y).1 hy
              rw [ne_iff] at h1
              omega)
          omega
        have HQ := Lib.hid hq
        have HRR := Lib.hid hr
        have HLN := Lib.hid (show o.length ≤ 110000 by omega)
        have HLQ := Lib.hid hql
        clear hol hql hq hr
        go_wp2_with (go_at_call 30; refine (rNonempty_is x0 x1 true _ HE.out).mono ?_; rintro e w1 ⟨rfl, hb1⟩; obtain ⟨hc1, hf1⟩ := bcell hb1)
        have hz1 := hb1.size
        have d0 : w1.cell? ⟨g, off + k * 2, none⟩ = some (.int .i64 x0) := by rw [hc1 _ _ hgw]; exact c0
        have d1 : w1.cell? ⟨g, off + k * 2 + 1, none⟩ = some (.int .i64 x1) := by rw [hc1 _ _ hgw]; exact c1
        have hg1 : g < w1.heap.size := by omega
        clear hc1 hf1 c0 c1
        have HR1 := Lib.hid (HR.out.below hb1)
        have HB1 := Lib.hid (tr HB.out hb1)
        clear hb1
        go_region_with (first
          | (go_at_call 35; (with_reducible refine (insert_is _ o x0 q _ ?_ HLN.out HQ.out).mono ?_); (exact HR1.out); rintro e w2 ⟨v2, rfl, hr2, hb2⟩; have e1 := ((bcell hb2).1 g (off + k * 2 + 1) hg1).trans d1; have e0 := ((bcell hb2).1 g (off + k * 2) hg1).trans d0)
          | (go_at_call 35; (with_reducible refine (insert_is _ q x1 r _ hr2 HLQ.out HRR.out).mono ?_); rintro e w3 ⟨v3, rfl, hr3, hb3⟩)
          | fail)
        all_goals
          go_wp2_with fail
          go_roundw
          case rel =>
            refine ⟨k + 1, r, by omega, by go_num, ?_, hr3, by first | exact tr (tr (below_drewN HB1.out _) hb2) hb3 | exact tr (below_drewN (tr (below_drewN HB1.out _) hb2) _) hb3 | exact tr (tr HB1.out hb2) hb3⟩
            rw [bnd_take HX.out, ← HO.out]
            unfold stepB
            rw [HE.out, if_pos rfl, show insR o (x0, x1).1 = q from HQ.out, show insR q (x0, x1).2 = r from HRR.out]
          case measure => simp [intOf]; omega
    · obtain rfl : k = n := by omega
      go_wp2_with fail
      go_ret
      refine ⟨_, rfl, ?_, HB.out⟩
      have e := HO.out
      rw [List.take_of_length_le (by have := HN.out; omega)] at e
      rw [← H.out, show bndR l = o from e.symm]
      exact HR.out
end Go.Proofs.Ytpdgdcdoaglimaa.rng
