/-
  The law MoneyAllocateSum walked.
-/
import Derived.Test.YtikcnekaefelcaaMoneyLaw4
namespace Go.Proofs.Ytikcnekaefelcaa.money
open Go Go.RowKit Go.Proofs.Ytikcnekaefelcaa.ints Go.Proofs.Ytikcnekaefelcaa.alloc
set_option linter.unusedVariables false

theorem tot_take_bounds {c : Int} {ws l : List Int} (h : Fine c ws l) (i : Nat) : -1000000000000000 * i ≤ tot (l.take i) ∧ tot (l.take i) ≤ 1000000000000000 * i := by
  induction i with
  | zero => simp [tot]
  | succ i ih =>
    by_cases hi : i < l.length
    · obtain ⟨z, hz⟩ : ∃ z, l[i]? = some z := ⟨_, List.getElem?_eq_getElem hi⟩
      rw [tot_step hz]
      have := h.size i z hz
      omega
    · rw [List.take_of_length_le (by omega)]
      rw [List.take_of_length_le (by omega)] at ih
      omega

set_option maxRecDepth 4000 in
set_option maxHeartbeats 4000000 in
theorem walk_MoneyAllocateSum (c : Int) (v : Value) (ws : List Int) (wc : In64 c) (w : World) (hv : Ints w v ws) (hz : ∀ z ∈ ws, In64 z) :
    Calls Try.prog 7 #[.int .i64 c, v] w (True64 w) := by
  obtain ⟨A, cp, rfl⟩ := hv.form0
  have HV := Lib.hid hv
  have hm := hv.1
  clear hv hz
  by_cases hl : 64 < ws.length
  · clear wc
    go_enter Try.func7, Try.ntmps7
    go_wp2_with (go_at_call 12; refine (awake_is _).mono ?_; rintro e w3 ⟨rfl, hb3⟩)
    go_ret
    exact ⟨rfl, hb3⟩
  · obtain ⟨l, k, h⟩ : ∃ l k, allocR c ws = (l, k) := ⟨_, _, rfl⟩
    rcases allocR_fine h with ⟨hk, rfl⟩ | ⟨rfl, hf⟩
    · have H := Lib.hid h
      have hk1 : (k != 0) = true := by simpa using hk
      clear h wc
      go_enter Try.func7, Try.ntmps7
      go_wp2_with (first
        | (go_at_call 17; refine (Allocate_is _ _ _ _ _ _ HV.out (by omega) H.out).mono ?_; rintro e w1 ⟨⟨u1, rfl, hu1⟩, hb1⟩; obtain ⟨A1, c1, rfl⟩ := hu1.form0; simp only [List.length_nil])
        | (go_at_call 12; refine (awake_is _).mono ?_; rintro e w4 ⟨rfl, hb4⟩)
        | fail)
      go_ret
      exact ⟨rfl, tr hb1 hb4⟩
    · have H := Lib.hid h
      have HF := Lib.hid hf
      have hlen := hf.len
      have hcb : -9223372036854775808 ≤ c ∧ c ≤ 9223372036854775807 := wc
      obtain ⟨hc0, hc1⟩ := hcb
      clear h hf wc
      go_enter Try.func7, Try.ntmps7
      go_wp2_with (first
        | (go_at_call 17; refine (Allocate_is _ _ _ _ _ _ HV.out (by omega) H.out).mono ?_; rintro e w1 ⟨⟨u1, rfl, hu1⟩, hb1⟩; obtain ⟨A1, c1, rfl⟩ := hu1.form0; have HU := Lib.hid hu1; have HB1 := Lib.hid hb1; rw [hlen]; clear hu1 hb1)
        | fail)
      go_loopw [7, 8] (fun s i wr => ∃ n q : Nat, n ≤ ws.length ∧ wr = w1.drewN q ∧ i = .int .i64 n ∧ s = .int .i64 (tot (l.take n))) (fun _ i _ => ws.length - (intOf i).toNat)
      case atStart => exact ⟨0, 0, Nat.zero_le _, rfl, rfl, by simp [tot]⟩
      case round =>
        obtain ⟨n, q, hn, rfl, rfl, rfl⟩ := hrel
        by_cases hlt : n < ws.length
        · obtain ⟨gl, ol, xl, hval, hgl, hcl⟩ := HU.out.form (by omega)
          obtain ⟨gw, ow, xw, hvaw, hgw, hcw⟩ := (HV.out.below HB1.out).form (by omega)
          simp only [Value.slice.injEq] at hval hvaw
          obtain ⟨rfl, -, -⟩ := hval
          obtain ⟨rfl, -, -⟩ := hvaw
          obtain ⟨z, hz⟩ : ∃ z, l[n]? = some z := ⟨_, List.getElem?_eq_getElem (by omega)⟩
          obtain ⟨p, hp⟩ : ∃ p, ws[n]? = some p := ⟨_, List.getElem?_eq_getElem hlt⟩
          have c1 := hcl n z hz
          have c2 := hcw n p hp
          obtain ⟨z0, z1⟩ := HF.out.size n z hz
          have hbz : beyond z 1000000000000000 = false := by unfold beyond; simp; omega
          have HBZ := Lib.hid hbz
          have HZ := Lib.hid hz
          have HP := Lib.hid hp
          have HCL := Lib.hid hcl
          have HCW := Lib.hid hcw
          have htb := tot_take_bounds HF.out n
          have hts := tot_step hz
          obtain ⟨t, ht⟩ : ∃ t, tot (l.take n) = t := ⟨_, rfl⟩
          rw [ht] at htb hts
          rw [ht]
          have HTS := Lib.hid hts
          obtain ⟨za, hza⟩ : ∃ za : Int, (z.natAbs : Int) = za := ⟨_, rfl⟩
          have hzab : 0 ≤ za ∧ za ≤ 1000000000000000 := by omega
          have HZB := Lib.hid (And.intro (show (-9223372036854775807 : Int) ≤ z by omega) hza)
          have hcase : ((z != 0) = true ∧ (p == 0) = false ∧ z < 0 ∧ c < 0) ∨ ((z != 0) = true ∧ (p == 0) = false ∧ ¬ z < 0 ∧ ¬ c < 0) ∨ ((z != 0) = false ∧ (p == 0) = true) ∨ ((z != 0) = false ∧ (p == 0) = false) := by
            by_cases h0 : z = 0
            · right; right
              by_cases h1 : p = 0
              · exact .inl ⟨by simpa using h0, by simpa using h1⟩
              · exact .inr ⟨by simpa using h0, by simpa using h1⟩
            · have h1 : p ≠ 0 := fun e => h0 (HF.out.zero n z hz (by rw [hp, e]))
              have h2 := HF.out.sign n z hz h0
              by_cases h3 : c < 0
              · exact .inl ⟨by simpa using h0, by simpa using h1, by simpa [h3] using h2, h3⟩
              · exact .inr (.inl ⟨by simpa using h0, by simpa using h1, by simpa [h3] using h2, h3⟩)
          clear hz hp hcl hcw ht hts hza hbz
          rcases hcase with ⟨q1, q2, q3, q4⟩ | ⟨q1, q2, q3, q4⟩ | ⟨q1, q2⟩ | ⟨q1, q2⟩
          all_goals
            go_wp2_with (first
              | (go_at_call 20; (with_reducible refine (rBeyond_is z _ false _ (by decide) (by decide) HBZ.out).mono ?_); rintro e w' ⟨rfl, rfl⟩)
              | fail)
            go_loopw [9] (fun v wr => ∃ j q2 : Nat, j ≤ n ∧ wr = w1.drewN q2 ∧ v = .int .i64 j) (fun v _ => n - (intOf v).toNat)
            case atStart => exact ⟨0, _, Nat.zero_le _, rfl, rfl⟩
            case round =>
              clear q1 q2
              obtain ⟨j, q2, hj, rfl, rfl⟩ := hrel
              by_cases hjl : j < n
              · obtain ⟨y, hy⟩ : ∃ y, l[j]? = some y := ⟨_, List.getElem?_eq_getElem (by omega)⟩
                obtain ⟨r, hr⟩ : ∃ r, ws[j]? = some r := ⟨_, List.getElem?_eq_getElem (by omega)⟩
                have c3 := HCL.out j y hy
                have c4 := HCW.out j r hr
                obtain ⟨y0, y1⟩ := HF.out.size j y hy
                obtain ⟨ya, hya⟩ : ∃ ya : Int, (y.natAbs : Int) = ya := ⟨_, rfl⟩
                have hyab : 0 ≤ ya ∧ ya ≤ 1000000000000000 := by omega
                have HYB := Lib.hid (And.intro (show (-9223372036854775807 : Int) ≤ y by omega) hya)
                have hmore := HF.out.more j n y z r p hjl hy HZ.out hr HP.out
                have hless := HF.out.less j n y z r p hjl hy HZ.out hr HP.out
                have hnear : p = r → ya - za ≤ 1 := fun e => by
                  have := HF.out.near j n y z r hjl hy HZ.out hr (by rw [← e]; exact HP.out)
                  rw [hya, HZB.out.2] at this; exact this
                rw [hya, HZB.out.2] at hmore hless
                have hw1 : IntKind.i64.wrap (ya - za) = ya - za := i64_in (by omega) (by omega)
                have hjw : j < ws.length := by omega
                clear hy hr hya
                rcases Int.lt_trichotomy p r with g | g | g
                · have g1 : decide (p ≤ r) = true := by simp; omega
                  have g2 : decide (ya < za) = false := by have := hmore (by omega); simp; omega
                  have g3 : decide (r < p) = false := by simp; omega
                  have g4 : (p == r) = false := by simp; omega
                  clear hmore hless hnear
                  go_wp2
                  go_quiet (first
                    | (go_at_call 21; with_reducible exact quiet_more (rAbs_is y ya _ HYB.out.1 HYB.out.2))
                    | (go_at_call 21; with_reducible exact quiet_more (rAbs_is z za _ HZB.out.1 HZB.out.2)))
                  go_wp2
                  go_quiet (fail)
                  go_wp2
                  go_roundw
                  case rel => exact ⟨j + 1, _, by omega, rfl, by go_num⟩
                  case measure => simp [intOf]; omega
                · have g1 : decide (p ≤ r) = true := by simp; omega
                  have g2 : decide (ya < za) = false := by have := hmore (by omega); simp; omega
                  have g3 : decide (r < p) = false := by simp; omega
                  have g4 : (p == r) = true := by simpa using g
                  have g5 : decide (1 < ya - za) = false := by have := hnear g; simp; omega
                  clear hmore hless hnear g
                  go_wp2
                  go_quiet (first
                    | (go_at_call 21; with_reducible exact quiet_more (rAbs_is y ya _ HYB.out.1 HYB.out.2))
                    | (go_at_call 21; with_reducible exact quiet_more (rAbs_is z za _ HZB.out.1 HZB.out.2)))
                  go_wp2
                  go_quiet (fail)
                  go_wp2
                  go_roundw
                  case rel => exact ⟨j + 1, _, by omega, rfl, by go_num⟩
                  case measure => simp [intOf]; omega
                · have g1 : decide (p ≤ r) = false := by simp; omega
                  have g2 : decide (za < ya) = false := by have := hless g; simp; omega
                  have g3 : decide (r < p) = true := by simp; omega
                  have g4 : (p == r) = false := by simp; omega
                  clear hmore hless hnear
                  go_wp2
                  go_quiet (first
                    | (go_at_call 21; with_reducible exact quiet_more (rAbs_is y ya _ HYB.out.1 HYB.out.2))
                    | (go_at_call 21; with_reducible exact quiet_more (rAbs_is z za _ HZB.out.1 HZB.out.2)))
                  go_wp2
                  go_quiet (fail)
                  go_wp2
                  go_roundw
                  case rel => exact ⟨j + 1, _, by omega, rfl, by go_num⟩
                  case measure => simp [intOf]; omega
              · obtain rfl : j = n := by omega
                go_wp2
                go_roundw
                case rel => exact ⟨j + 1, _, by omega, rfl, by go_num, by rw [HTS.out]⟩
                case measure => simp [intOf]; omega
        · obtain rfl : n = ws.length := by omega
          rw [← hlen, List.take_length, HF.out.sum]
          go_wp2_with (first
            | (go_at_call 12; refine (awake_is _).mono ?_; rintro e w4 ⟨rfl, hb4⟩)
            | fail)
          go_ret
          exact ⟨rfl, tr (below_drewN HB1.out _) hb4⟩
end Go.Proofs.Ytikcnekaefelcaa.money
