/-
  The reference's Union walked.
-/
import Derived.Test.YtpdgdcdoaglimaaRngPut
namespace Go.Proofs.Ytpdgdcdoaglimaa.rng
open Go Go.RowKit Go.Proofs.Ytpdgdcdoaglimaa.money
set_option linter.unusedVariables false
set_option linter.unusedSimpArgs false

theorem norm_length : ∀ {l : List R} (b : Int), Norm l → (∀ y ∈ l, b ≤ y.1) → b + l.length ≤ max b 109573
  | [], b, _, _ => by simp; omega
  | x :: l, b, h, hb => by
    obtain ⟨h1, h2, h3⟩ := norm_cons.1 h
    have e := (ne_iff x).1 h1
    have := hb x (by simp)
    have := norm_length (b + 1) h3 (fun y hy => by have := h2 y hy; omega)
    rw [List.length_cons]
    omega
theorem norm_short {l : List R} (h : Norm l) : l.length ≤ 109573 := by
  have := norm_length 0 h (fun y hy => by have := (ne_iff y).1 (h.1 y hy); omega)
  omega

def stepU (o : List R) (x : R) : List R := if neR x then putR o x else o
theorem union_take {l : List R} {k : Nat} {x : R} (h : l[k]? = some x) : (l.take (k + 1)).foldl stepU [] = stepU ((l.take k).foldl stepU []) x := by
  rw [List.take_add_one, h]; simp
theorem union_step_norm (l : List R) : Norm (l.foldl stepU []) := union_norm l

set_option maxHeartbeats 2000000 in
theorem rUnion_is (vl : Value) (l : List R) (res : List R) (w : World) (hl : Rgs w vl l) (hn : l.length ≤ 110000) (h : unionR l = res) :
    Calls Try.prog 21 #[vl] w (GivesL w res) := by
  obtain ⟨A, c, rfl⟩ := hl.form0
  obtain ⟨n, hn'⟩ : ∃ n, l.length = n := ⟨_, rfl⟩
  rw [hn'] at hn hl ⊢
  have HN := Lib.hid hn'
  have HL := Lib.hid hl
  have H := Lib.hid h
  clear h hl hn'
  go_enter Try.func21, Try.ntmps21
  go_wp2
  go_loopw [3, 4] (fun v i wr => ∃ (k : Nat) (o : List R), k ≤ n ∧ i = .int .i64 k ∧ o = (l.take k).foldl stepU [] ∧ Rgs wr v o ∧ Below w.heap.size w wr) (fun _ i _ => n - (intOf i).toNat)
  case atStart => exact ⟨0, [], Nat.zero_le _, rfl, rfl, Rgs.nil _ _ _, Below.refl _ _⟩
  case round =>
    obtain ⟨k, o, hk, rfl, ho, hr, hb⟩ := hrel
    have HO := Lib.hid ho
    have HR := Lib.hid hr
    have HB := Lib.hid hb
    clear ho hr hb
    by_cases hlt : k < n
    · obtain ⟨g, off, x0, x1, rfl, hx, c0, c1⟩ := HL.out.at HB.out hlt HN.out
      have HX := Lib.hid hx
      clear hx
      obtain ⟨b, hne⟩ : ∃ b, neR (x0, x1) = b := ⟨_, rfl⟩
      have HE := Lib.hid hne
      clear hne
      have hgw : g < wr.heap.size := by
        obtain ⟨g', off', c', hv, hg, hc⟩ := (HL.out.below HB.out).form (by have := HN.out; omega)
        simp only [Value.slice.injEq, Option.some.injEq, Addr.mk.injEq] at hv
        omega
      cases b
      · go_wp2_with (go_at_call 30; refine (rNonempty_is x0 x1 false _ HE.out).mono ?_; rintro e w1 ⟨rfl, hb1⟩)
        go_roundw
        case rel =>
          refine ⟨k + 1, o, by omega, by go_num, ?_, HR.out.below hb1, tr HB.out hb1⟩
          rw [union_take HX.out, ← HO.out]
          unfold stepU
          rw [HE.out, if_neg (by decide)]
        case measure => simp [intOf]; omega
      · obtain ⟨q, hq⟩ : ∃ q, putR o (x0, x1) = q := ⟨_, rfl⟩
        have HQ := Lib.hid hq
        clear hq
        have hol : o.length ≤ 110000 := by
          have h1 := norm_short (union_step_norm (l.take k))
          rw [← HO.out] at h1
          omega
        have HLN := Lib.hid hol
        clear hol
        go_wp2_with (first
          | (go_at_call 30; refine (rNonempty_is x0 x1 true _ HE.out).mono ?_; rintro e w1 ⟨rfl, hb1⟩; obtain ⟨hc1, hf1⟩ := bcell hb1)
          | (go_at_call 32; refine (put_is _ o x0 x1 q _ (HR.out.below hb1) HLN.out HQ.out).mono ?_; rintro e w2 ⟨v2, rfl, hr2, hb2⟩)
          | fail)
        go_roundw
        case rel =>
          refine ⟨k + 1, q, by omega, by go_num, ?_, hr2, tr (tr HB.out hb1) hb2⟩
          rw [union_take HX.out, ← HO.out]
          unfold stepU
          rw [HE.out, if_pos rfl, HQ.out]
        case measure => simp [intOf]; omega
    · obtain rfl : k = n := by omega
      go_wp2_with fail
      go_ret
      refine ⟨_, rfl, ?_, HB.out⟩
      have e := HO.out
      rw [List.take_of_length_le (by have := HN.out; omega)] at e
      rw [← H.out, show unionR l = o from e.symm]
      exact HR.out
end Go.Proofs.Ytpdgdcdoaglimaa.rng
