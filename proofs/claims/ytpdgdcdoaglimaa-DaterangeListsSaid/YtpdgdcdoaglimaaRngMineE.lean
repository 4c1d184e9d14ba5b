/-
  The landed Gaps and Subtract walked.
-/
import Derived.Test.YtpdgdcdoaglimaaRngMineB
import Derived.Test.YtpdgdcdoaglimaaRngMineC
namespace Go.Proofs.Ytpdgdcdoaglimaa.rng
open Go Go.RowKit Go.Proofs.Ytpdgdcdoaglimaa.money
set_option linter.unusedVariables false
set_option linter.unusedSimpArgs false

theorem Union_is (vl : Value) (l : List R) (res : List R) (w : World) (he : Env w) (hl : Rgs w vl l) (hn : l.length ≤ 100) (h : unionR l = res) : Calls Try.prog 20 #[vl] w (GivesL w res) :=
  Union_with sorted_is vl l res w he hl hn h

set_option maxHeartbeats 2000000 in
theorem Gaps_is (vl : Value) (l : List R) (a0 a1 : Int) (res : List R) (w : World) (he : Env w) (hl : Rgs w vl l) (hn : l.length ≤ 100) (h : gapsR l (a0, a1) = res) : Calls Try.prog 22 #[vl, .agg #[.int .i64 a0, .int .i64 a1]] w (GivesL w res) := by
  obtain ⟨A, c, rfl⟩ := hl.form0
  have HN := Lib.hid hn
  have HL := Lib.hid hl
  obtain ⟨va, hva⟩ : ∃ v, neR (a0, a1) = v := ⟨_, rfl⟩
  have HA := Lib.hid hva
  clear hl hn
  cases va
  · have e : res = [] := by rw [← h]; unfold gapsR; rw [hva]; rfl
    subst e
    clear h hva
    go_enter Try.func22, Try.ntmps22
    go_wp2_with (go_at_call 29; refine (hasDates_is a0 a1 false _ HA.out).mono ?_; rintro e w1 ⟨rfl, hb1⟩)
    go_ret
    exact ⟨_, rfl, Rgs.nil _ _ _, tr ((Below.refl _ _).alloc (Nat.le_refl _) _) hb1⟩
  · obtain ⟨U, hU⟩ : ∃ U, unionR l = U := ⟨_, rfl⟩
    have H := Lib.hid h
    have HU := Lib.hid hU
    have HUN := Lib.hid (show Norm U by rw [← hU]; exact union_norm l)
    clear h hva hU
    go_enter Try.func22, Try.ntmps22
    go_wp2_with (first
      | (go_at_call 29; refine (hasDates_is a0 a1 true _ HA.out).mono ?_; rintro e w1 ⟨rfl, hb1⟩; obtain ⟨hc1, hf1⟩ := bcell hb1; have B1 := Lib.hid (tr ((Below.refl w.heap.size w).alloc (Nat.le_refl _) _) hb1); have hz1 := hb1.size; simp at hz1; have a0c : w1.cell? ⟨w.heap.size, 0, none⟩ = some (.int .i64 a0) := (by rw [hc1 _ _ (by simp)]; simp [go_sem]); have a1c : w1.cell? ⟨w.heap.size, 1, none⟩ = some (.int .i64 a1) := (by rw [hc1 _ _ (by simp)]; simp [go_sem]); clear hc1 hf1 hb1)
      | (go_at_call 20; refine (Union_is _ l U _ trivial (HL.out.below B1.out) HN.out HU.out).mono ?_; rintro e w2 ⟨v2, rfl, hr2, hb2⟩; obtain ⟨A2, c2, rfl⟩ := hr2.form0; obtain ⟨n, hnn⟩ : ∃ n, U.length = n := ⟨_, rfl⟩; have hnl : n ≤ 110000 := (by have := norm_short HUN.out; omega); rw [hnn] at hr2 ⊢; have HNN := Lib.hid hnn; have HR := Lib.hid hr2; have B2 := Lib.hid (tr B1.out hb2); have hz2 := hb2.size; have q0 := ((bcell hb2).1 w.heap.size 0 (by omega)).trans a0c; have q1 := ((bcell hb2).1 w.heap.size 1 (by omega)).trans a1c; clear hnn hr2 hb2))
    clear a0c a1c
    go_loopw [5, 6, 19] (fun v fv i wr => ∃ (k : Nat) (g : List R) (f : Int), k ≤ n ∧ i = .int .i64 k ∧ fv = .int .i64 f ∧ g.length ≤ k ∧ Gapped U (a0, a1) k g f ∧ wr.ownsRow w2.heap.size 23 2 v g.length (cellsR g) ∧ Below w2.heap.size w2 wr) (fun _ _ i _ => n - (intOf i).toNat)
    case atStart => exact ⟨0, [], a0, Nat.zero_le _, rfl, rfl, Nat.le_refl _, Gapped.start U HA.out, World.ownsRow_nil _ _ _ _, Below.refl _ _⟩
    case round =>
      obtain ⟨k, gs, f, hk, rfl, rfl, hgl, hG, hown, hb⟩ := hrel
      have HG := Lib.hid hG
      have HW := Lib.hid hown
      have HBI := Lib.hid hb
      have hzw : w2.heap.size ≤ wr.heap.size := hb.size
      have p0 := ((bcell hb).1 w.heap.size 0 (by omega)).trans q0
      have p1 := ((bcell hb).1 w.heap.size 1 (by omega)).trans q1
      have hww : w.heap.size < wr.heap.size := by omega
      clear hG hown hb
      by_cases hlt : k < n
      · obtain ⟨g, off, x0, x1, rfl, hx, c0, c1⟩ := HR.out.at HBI.out hlt HNN.out
        have HX := Lib.hid hx
        clear hx
        have hgw : g < wr.heap.size := by
          obtain ⟨g', off', c', hv, hg, hc⟩ := (HR.out.below HBI.out).form (by have := HNN.out; omega)
          simp only [Value.slice.injEq, Option.some.injEq, Addr.mk.injEq] at hv
          omega
        obtain ⟨⟨⟨d0, d1⟩, t⟩, hi⟩ : ∃ r, interR (x0, x1) (a0, a1) = r := ⟨_, rfl⟩
        have HI := Lib.hid hi
        clear hi
        cases t
        · go_wp2_with (go_at_call 9; refine (Intersect_is x0 x1 a0 a1 d0 d1 false _ trivial HI.out).mono ?_; rintro e w3 ⟨rfl, hb3⟩; have B3 := Lib.hid (show Below wr.heap.size wr w3 from tr ((Below.refl _ _).alloc (Nat.le_refl _) _) hb3); have hz3 := hb3.size; simp at hz3; clear hb3)
          go_roundw
          case rel =>
            refine ⟨k + 1, gs, f, by omega, by go_num, rfl, by omega, HG.out.skip HX.out HI.out, own_below (own_below HW.out B3.out) ((Below.refl _ _).alloc (Nat.le_refl _) _), al (tr HBI.out B3.out) _⟩
          case measure => simp [intOf]; omega
        · by_cases hf : f < d0
          · go_wp2_with (first
              | (go_at_call 9; refine (Intersect_is x0 x1 a0 a1 d0 d1 true _ trivial HI.out).mono ?_; rintro e w3 ⟨rfl, hb3⟩; have B3 := Lib.hid (show Below wr.heap.size wr w3 from tr ((Below.refl _ _).alloc (Nat.le_refl _) _) hb3); have hz3 := hb3.size; simp at hz3; clear hb3)
              | (at_builtin; refine wpList_append_rng_k rfl _ _ rfl w2.heap.size _ gs rfl (own_below (own_below HW.out B3.out) ((Below.refl _ _).alloc (Nat.le_refl _) _)) f d0 _ rfl (by simp) (by omega) (by simp; omega) ?_; intro v' w4 hown4 hg4; have e0 := hg4.cell (a := ⟨w3.heap.size, 0, none⟩) (v := .int .i64 d0) (by simp [go_sem]) (fun e => by have := (HW.out.lt _ e.symm).2; simp at this; omega); have e1 := hg4.cell (a := ⟨w3.heap.size, 1, none⟩) (v := .int .i64 d1) (by simp [go_sem]) (fun e => by have := (HW.out.lt _ e.symm).2; simp at this; omega)))
            go_roundw
            case rel =>
              exact ⟨k + 1, gs ++ [(f, d0)], d1, by omega, by go_num, rfl, by simp; omega, HG.out.put HUN.out HX.out HI.out (by simp only; omega), hown4, grow (al (al (tr HBI.out B3.out) _) _) hg4 (fun k hk => (HW.out.lt k hk).1)⟩
            case measure => simp [intOf]; omega
          · go_wp2_with (go_at_call 9; refine (Intersect_is x0 x1 a0 a1 d0 d1 true _ trivial HI.out).mono ?_; rintro e w3 ⟨rfl, hb3⟩; have B3 := Lib.hid (show Below wr.heap.size wr w3 from tr ((Below.refl _ _).alloc (Nat.le_refl _) _) hb3); have hz3 := hb3.size; simp at hz3; clear hb3)
            go_roundw
            case rel =>
              exact ⟨k + 1, gs, d1, by omega, by go_num, rfl, by omega, HG.out.hop HUN.out HX.out HI.out (by simp only; omega), own_below (own_below HW.out B3.out) ((Below.refl _ _).alloc (Nat.le_refl _) _), al (tr HBI.out B3.out) _⟩
            case measure => simp [intOf]; omega
      · obtain rfl : k = n := by omega
        by_cases hf : f < a1
        · have hlast := HG.out.last (l := l) (by have := HNN.out; omega) HA.out HU.out hf
          have HQ := Lib.hid hlast
          clear hlast
          go_wp2_with (first | (at_builtin; refine wpList_append_rng_k rfl _ _ rfl w2.heap.size _ gs rfl HW.out f a1 _ rfl (by simp) (by omega) (by omega) ?_; intro v' w4 hown4 hg4))
          go_ret
          refine ⟨_, rfl, ?_, grow (al (tr B2.out HBI.out) _) hg4 (fun k hk => by have := (HW.out.lt k hk).1; omega)⟩
          rw [← H.out, HQ.out]
          exact Rgs.of_own hown4 (by simp; omega)
        · have hlast := HG.out.done (l := l) (by have := HNN.out; omega) HA.out HU.out hf
          have HQ := Lib.hid hlast
          clear hlast
          go_wp2_with fail
          go_ret
          refine ⟨_, rfl, ?_, tr B2.out HBI.out⟩
          rw [← H.out, HQ.out]
          exact Rgs.of_own HW.out (by omega)
end Go.Proofs.Ytpdgdcdoaglimaa.rng
