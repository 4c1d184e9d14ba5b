/-
  The reference's Gaps walked.
-/
import Derived.Test.YtpdgdcdoaglimaaRngSub
import Derived.Test.YtpdgdcdoaglimaaRgsStep
import Derived.Deep.RegionWith
import Derived.RegionTactic
namespace Go.Proofs.Ytpdgdcdoaglimaa.rng
open Go Go.RowKit Go.Proofs.Ytpdgdcdoaglimaa.money
set_option linter.unusedVariables false
set_option linter.unusedSimpArgs false

theorem own_below {w w' : World} {base : Nat} {e : TypeId} {size : Nat} {v : Value} {n : Nat} {xs : List Value} (h : w.ownsRow base e size v n xs) (hb : Below w.heap.size w w') : w'.ownsRow base e size v n xs := by
  refine h.kept (row := none) ⟨hb.os, hb.tape, hb.output, hb.size, fun k hk _ => hb.block k hk⟩ ?_
  cases hv : v.ownBlock with
  | none => exact .inl rfl
  | some g => exact .inr (fun e => by cases e)

def cutG (o : List R) (x : R) : List R := o.flatMap fun y => subR y x
theorem gaps_take {l : List R} {k : Nat} {x a : R} (h : l[k]? = some x) : (l.take (k + 1)).foldl cutG [a] = cutG ((l.take k).foldl cutG [a]) x := by
  rw [List.take_add_one, h]; simp
theorem cut_take {o : List R} {j : Nat} {y x : R} (h : o[j]? = some y) : (o.take (j + 1)).flatMap (fun y => subR y x) = (o.take j).flatMap (fun y => subR y x) ++ subR y x := by
  rw [List.take_add_one, h]; simp
theorem gaps_step_norm {a : R} (ha : neR a = true) (l : List R) : Norm (l.foldl cutG [a]) :=
  (gaps_from l [a] (norm_cons.2 ⟨ha, fun y h => (by cases h), .nil⟩)).1
theorem cut_short {o : List R} (h : Norm o) (x : R) (j : Nat) : ((o.take j).flatMap fun y => subR y x).length ≤ 109573 :=
  norm_short (cut_spec (o.take j) x (h.sub (List.take_sublist _ _))).1

set_option maxHeartbeats 4000000 in
theorem rGaps_is (vl : Value) (l : List R) (a0 a1 : Int) (res : List R) (w : World) (hl : Rgs w vl l) (hn : l.length ≤ 110000) (h : gapsR l (a0, a1) = res) :
    Calls Try.prog 23 #[vl, .agg #[.int .i64 a0, .int .i64 a1]] w (GivesL w res) := by
  obtain ⟨A, c, rfl⟩ := hl.form0
  obtain ⟨n, hn'⟩ : ∃ n, l.length = n := ⟨_, rfl⟩
  rw [hn'] at hn hl ⊢
  have HN := Lib.hid hn'
  have HL := Lib.hid hl
  unfold gapsR at h
  obtain ⟨va, hva⟩ : ∃ v, neR (a0, a1) = v := ⟨_, rfl⟩
  rw [hva] at h
  have HA := Lib.hid hva
  clear hl hn' hva
  cases va
  · rw [if_neg (by decide)] at h
    subst h
    go_enter Try.func23, Try.ntmps23
    go_wp2_with (go_at_call 30; refine (rNonempty_is a0 a1 false _ HA.out).mono ?_; rintro e w1 ⟨rfl, hb1⟩)
    go_ret
    exact ⟨_, rfl, Rgs.nil _ _ _, tr ((Below.refl _ _).alloc (Nat.le_refl _) _) hb1⟩
  · rw [if_pos rfl] at h
    have H := Lib.hid h
    clear h
    go_enter Try.func23, Try.ntmps23
    go_wp2_with (go_at_call 30; refine (rNonempty_is a0 a1 true _ HA.out).mono ?_; rintro e w1 ⟨rfl, hb1⟩; obtain ⟨hc1, hf1⟩ := bcell hb1)
    have B0 := Lib.hid (tr ((Below.refl w.heap.size w).alloc (Nat.le_refl _) _) hb1)
    clear hb1 hc1 hf1
    go_loopw [5, 6] (fun v i wr => ∃ (k : Nat) (o : List R), k ≤ n ∧ i = .int .i64 k ∧ o = (l.take k).foldl cutG [(a0, a1)] ∧ Rgs wr v o ∧ Below w.heap.size w wr) (fun _ i _ => n - (intOf i).toNat)
    case atStart => exact ⟨0, [(a0, a1)], Nat.zero_le _, rfl, rfl, Rgs.one _ _ _ _ _ (by simp), al B0.out _⟩
    case round =>
      obtain ⟨k, o, hk, rfl, ho, hr, hb⟩ := hrel
      obtain ⟨A2, c2, rfl⟩ := hr.form0
      obtain ⟨m, hm⟩ : ∃ m, o.length = m := ⟨_, rfl⟩
      have hol : m ≤ 110000 := by
        have h1 := norm_short (gaps_step_norm HA.out (l.take k))
        rw [← ho] at h1
        omega
      rw [hm] at hr ⊢
      have HO := Lib.hid ho
      have HR := Lib.hid hr
      have HB := Lib.hid hb
      have HM := Lib.hid hm
      clear ho hr hb hm
      by_cases hlt : k < n
      · obtain ⟨g, off, x0, x1, rfl, hx, c0, c1⟩ := HL.out.at HB.out hlt HN.out
        have HX := Lib.hid hx
        clear hx
        have hgw : g < wr.heap.size := by
          obtain ⟨g', off', c', hv, hg, hc⟩ := (HL.out.below HB.out).form (by have := HN.out; omega)
          simp only [Value.slice.injEq, Option.some.injEq, Addr.mk.injEq] at hv
          omega
        have C0 := Lib.hid c0
        have C1 := Lib.hid c1
        clear c0 c1
        obtain ⟨wq, hwq⟩ : ∃ x, x = wr := ⟨_, rfl⟩
        subst hwq
        go_wp2_with fail
        go_loopw [7, 8] (fun v j wi => ∃ (q : Nat) (p : List R), q ≤ m ∧ j = .int .i64 q ∧ p = (o.take q).flatMap (fun y => subR y (x0, x1)) ∧ wi.ownsRow wq.heap.size 23 2 v p.length (cellsR p) ∧ Below wq.heap.size wq wi) (fun _ j _ => m - (intOf j).toNat)
        case atStart => exact ⟨0, [], Nat.zero_le _, rfl, rfl, World.ownsRow_nil _ _ _ _, Below.refl _ _⟩
        case round =>
          obtain ⟨q, p, hq, rfl, hp, hown, hbi⟩ := hrel
          have hpl : p.length ≤ 110000 := by
            have h1 := cut_short (o := o) (by rw [HO.out]; exact gaps_step_norm HA.out (l.take k)) (x0, x1) q
            rw [← hp] at h1
            omega
          have HP := Lib.hid hp
          have HOWN := Lib.hid hown
          have HBI := Lib.hid hbi
          have HPL := Lib.hid hpl
          clear hp hown hbi hpl
          by_cases hlq : q < m
          · obtain ⟨g2, off2, y0, y1, rfl, hy, d0, d1⟩ := HR.out.at HBI.out hlq HM.out
            have HY := Lib.hid hy
            clear hy
            have c0 : wr.cell? ⟨g, off + k * 2, none⟩ = some (.int .i64 x0) := by rw [HBI.out.cell (p := ⟨g, off + k * 2, none⟩) hgw]; exact C0.out
            have c1 : wr.cell? ⟨g, off + k * 2 + 1, none⟩ = some (.int .i64 x1) := by rw [HBI.out.cell (p := ⟨g, off + k * 2 + 1, none⟩) hgw]; exact C1.out
            obtain ⟨s, hs⟩ : ∃ s, subR (y0, y1) (x0, x1) = s := ⟨_, rfl⟩
            have hsl : s.length ≤ 2 := by rw [← hs]; exact (sub_spec _ _).2.2.1
            have HS := Lib.hid hs
            have HSL := Lib.hid hsl
            clear hs hsl
            go_wp2_with fail
            have hg2w : g2 < wq.heap.size := by
              obtain ⟨g', off', c', hv, hg, hc⟩ := HR.out.form (by have := HM.out; omega)
              simp only [Value.slice.injEq, Option.some.injEq, Addr.mk.injEq] at hv
              omega
            have hzi : wq.heap.size ≤ wr.heap.size := HBI.out.size
            have hgi : g < wr.heap.size := by omega
            have hg2i : g2 < wr.heap.size := by omega
            go_region_held3 (fun w' => w'.cell? ⟨g, off + k * 2, none⟩ = some (.int .i64 x0) ∧ w'.cell? ⟨g, off + k * 2 + 1, none⟩ = some (.int .i64 x1) ∧ w'.cell? ⟨g2, off2 + q * 2, none⟩ = some (.int .i64 y0) ∧ w'.cell? ⟨g2, off2 + q * 2 + 1, none⟩ = some (.int .i64 y1))
              (first | go_keep | exact ⟨f0, f1, f2, f3⟩ | exact ⟨e0, e1, e2, e3⟩)
              (first
                | (go_at_call 17; (with_reducible refine (rSubtract_is y0 y1 x0 x1 s _ HS.out).mono ?_); rintro e w2 ⟨v2, rfl, hr2, hb2⟩; have O2 := Lib.hid (own_below (by exact HOWN.out) hb2); have Z2 := Lib.hid (show wq.heap.size ≤ w2.heap.size from Nat.le_trans HBI.out.size hb2.size); have e0 := ((bcell hb2).1 g (off + k * 2) hgi).trans c0; have e1 := ((bcell hb2).1 g (off + k * 2 + 1) hgi).trans c1; have e2 := ((bcell hb2).1 g2 (off2 + q * 2) hg2i).trans d0; have e3 := ((bcell hb2).1 g2 (off2 + q * 2 + 1) hg2i).trans d1)
                | ((refine step_append_rngs (by rfl) _ _ (by rfl) wq.heap.size _ p s (by rfl) (by exact O2.out) v2 (by rfl) (by exact hr2) (by have := HPL.out; have := HSL.out; omega) (by exact Z2.out) ?_; intro v3 w3 hown3 hg3; have f0 := hg3.cell e0 (fun e => by have := (O2.out.lt _ e.symm).1; simp at this; omega); have f1 := hg3.cell e1 (fun e => by have := (O2.out.lt _ e.symm).1; simp at this; omega); have f2 := hg3.cell e2 (fun e => by have := (O2.out.lt _ e.symm).1; simp at this; omega); have f3 := hg3.cell e3 (fun e => by have := (O2.out.lt _ e.symm).1; simp at this; omega))))
            go_wp2_with fail
            go_roundw
            case rel =>
              refine ⟨q + 1, p ++ s, by omega, by go_num, ?_, hown3, ?_⟩
              · rw [cut_take HY.out, ← HP.out, HS.out]
              · have b1 : Below wq.heap.size wq w2 := HBI.out.trans (Below.mono (B := wr.heap.size) (by exact ⟨hb2.os, hb2.tape, hb2.output, hb2.size, hb2.block⟩) HBI.out.size)
                exact grow b1 (by exact ⟨hg3.os, hg3.tape, hg3.output, hg3.size, hg3.block⟩) (fun k hk => (O2.out.lt k hk).1)
            case measure => simp [intOf]; omega
          · obtain rfl : q = m := by omega
            go_wp2_with fail
            go_roundw
            case rel =>
              refine ⟨k + 1, p, by omega, by go_num, ?_, Rgs.of_own HOWN.out (by have := HPL.out; omega), tr HB.out HBI.out⟩
              have e := HP.out
              rw [List.take_of_length_le (by have := HM.out; omega)] at e
              rw [gaps_take HX.out, ← HO.out]
              exact e
            case measure => simp [intOf]; omega
      · obtain rfl : k = n := by omega
        go_wp2_with fail
        go_ret
        refine ⟨_, rfl, ?_, HB.out⟩
        have e := HO.out
        rw [List.take_of_length_le (by have := HN.out; omega)] at e
        rw [← H.out, show l.foldl (fun o x => o.flatMap fun y => subR y x) [(a0, a1)] = o from e.symm]
        exact HR.out
end Go.Proofs.Ytpdgdcdoaglimaa.rng
