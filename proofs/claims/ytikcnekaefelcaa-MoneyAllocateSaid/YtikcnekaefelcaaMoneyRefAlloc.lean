/-
  What the reference's Allocate of chapter 2 answers: the walk.
-/
import Derived.Test.YtikcnekaefelcaaMoneyPart
import Derived.Test.YtikcnekaefelcaaAllocSteps
import Derived.Test.YtikcnekaefelcaaTwo
import Derived.Test.YtikcnekaefelcaaMoneyRefSum
namespace Go.Proofs.Ytikcnekaefelcaa.money
open Go Go.RowKit Go.Proofs.Ytikcnekaefelcaa.ints Go.Proofs.Ytikcnekaefelcaa.rank Go.Proofs.Ytikcnekaefelcaa.alloc
set_option linter.unusedVariables false

def okW (x : Int) : Bool := decide (0 ≤ x) && decide (x ≤ 1000000000)
/-- the shares of an amount, and the error -/
def allocR (c : Int) (ws : List Int) : List Int × Int :=
  if beyond c 1000000000000000 then ([], 3) else if !(ws.all okW) then ([], 3) else if 64 < ws.length then ([], 4) else if tot ws = 0 then ([], 12)
  else (if c < 0 then (shares c.natAbs (tot ws) ws).map (fun x => -x) else shares c.natAbs (tot ws) ws, 0)

theorem okW_iff {x : Int} : okW x = true ↔ 0 ≤ x ∧ x ≤ 1000000000 := by unfold okW; simp
theorem all_take {ws : List Int} {i : Nat} {z : Int} (h : (ws.take i).all okW = true) (hz : ws[i]? = some z) (hk : okW z = true) : (ws.take (i + 1)).all okW = true := by
  rw [List.take_add_one, hz, List.all_append, h]; simp [hk]
theorem all_no {ws : List Int} {i : Nat} {z : Int} (hz : ws[i]? = some z) (hk : okW z = false) : ws.all okW = false := by
  rw [Bool.eq_false_iff]; intro h
  have := List.all_eq_true.1 h z (List.mem_of_getElem? hz)
  rw [hk] at this; cases this
theorem tot_all {ws : List Int} (h : ws.all okW = true) : 0 ≤ tot ws ∧ tot ws ≤ 1000000000 * ws.length := by
  induction ws with
  | nil => simp [tot]
  | cons x l ih =>
    rw [List.all_cons, Bool.and_eq_true] at h
    have := ih h.2
    have := okW_iff.1 h.1
    rw [tot_cons, List.length_cons]; omega

/-- the answer of a call that makes a list of integers and an error -/
def GivesInts (w : World) (l : List Int) (k : Int) (e : Ending) (w' : World) : Prop :=
  (∃ u, e = .returned (.tuple #[u, .int .i64 k]) ∧ Ints w' u l) ∧ Below w.heap.size w w'
theorem gives_nil (w : World) (k : Int) {w' : World} (h : Below w.heap.size w w') : GivesInts w [] k (.returned (.tuple #[.slice none 0 0, .int .i64 k])) w' :=
  ⟨⟨_, rfl, Ints.nil _ _ _⟩, h⟩

theorem tot_bounds {l : List Int} {m : Int} (h : ∀ x ∈ l, 0 ≤ x ∧ x ≤ m) : 0 ≤ tot l ∧ tot l ≤ m * l.length := by
  induction l with
  | nil => simp [tot]
  | cons x l ih =>
    have h1 := ih (fun y hy => h y (List.mem_cons_of_mem _ hy))
    have h2 := h x (List.mem_cons_self ..)
    rw [tot_cons, List.length_cons]
    have e : m * ((l.length + 1 : Nat) : Int) = m * l.length + m := by rw [Int.natCast_add, Int.mul_add]; simp
    omega
theorem taken_bounds {a S : Int} {ws : List Int} (a0 : 0 ≤ a) (a1 : a ≤ 1000000000000000) (hS : 0 < S) (h0 : ∀ x ∈ ws, 0 ≤ x) (h1 : ∀ x ∈ ws, x ≤ S) (n : Nat) (hn : n ≤ ws.length) : a - 1000000000000000 * n ≤ taken a S ws n ∧ taken a S ws n ≤ a := by
  unfold taken
  have h := tot_bounds (l := (ws.take n).map (base a S)) (m := 1000000000000000) (fun y hy => by
    obtain ⟨x, hx, rfl⟩ := List.mem_map.1 hy
    have hx := List.mem_of_mem_take hx
    exact ⟨base_nonneg a0 hS (h0 x hx), Int.le_trans (base_le a0 hS (h1 x hx)) a1⟩)
  rw [List.length_map, List.length_take, Nat.min_eq_left hn] at h
  omega

theorem outs_bounds {a S : Int} {ws : List Int} (a0 : 0 ≤ a) (a1 : a ≤ 1000000000000000) (hS : 0 < S) (h0 : ∀ x ∈ ws, 0 ≤ x) (h1 : ∀ x ∈ ws, x ≤ S) (t : Nat) :
    ∀ (k : Nat) (z : Int), (outsAt a S ws t)[k]? = some z → 0 ≤ z ∧ z ≤ 1000000000000001 := by
  intro k z hz
  have hk : k < ws.length := by
    have := (List.getElem?_eq_some_iff.1 hz).1
    rwa [outsAt_length] at this
  rw [outsAt_at hk] at hz
  simp only [Option.some.injEq] at hz
  have hm : ws.getD k 0 ∈ ws := by
    have : ws.getD k 0 = ws[k] := by simp [List.getD, hk]
    rw [this]; exact List.getElem_mem _
  have g0 := base_nonneg (S := S) a0 hS (h0 _ hm)
  have g1 := base_le (S := S) a0 hS (h1 _ hm)
  split at hz <;> omega

set_option maxHeartbeats 2000000 in
theorem rAllocate_is (c : Int) (v : Value) (ws l : List Int) (k : Int) (w : World) (hv : Ints w v ws) (hl : ws.length ≤ 300) (h : allocR c ws = (l, k)) :
    Calls Try.prog 18 #[.int .i64 c, v] w (GivesInts w l k) := by
  obtain ⟨A, cp, rfl⟩ := hv.form0
  have HV := Lib.hid hv
  unfold allocR at h
  cases hb : beyond c 1000000000000000
  · rw [hb, if_neg (by decide)] at h
    have HB := Lib.hid hb
    have cb := beyond_in hb
    have H := Lib.hid h
    clear hv h hb
    go_enter Try.func18, Try.ntmps18
    go_wp2_with (first | (go_at_call 20; (with_reducible refine (rBeyond_is c _ false _ (by decide) (by decide) HB.out).mono ?_); rintro e w' ⟨rfl, rfl⟩) | fail)
    go_loop [6, 7] (fun s i => ∃ (n : Nat), n ≤ ws.length ∧ i = .int .i64 n ∧ s = .int .i64 (tot (ws.take n)) ∧ (ws.take n).all okW = true) (fun _ i => ws.length - (intOf i).toNat)
    case atStart => exact ⟨0, Nat.zero_le _, rfl, by simp [tot], by simp⟩
    case round =>
      obtain ⟨n, hn, rfl, rfl, ha⟩ := hrel
      by_cases hlt : n < ws.length
      · obtain ⟨g, off, x, hva, hg, hcs⟩ := HV.out.form (by omega)
        simp only [Value.slice.injEq] at hva
        obtain ⟨rfl, -, -⟩ := hva
        obtain ⟨z, hz⟩ : ∃ z, ws[n]? = some z := ⟨_, List.getElem?_eq_getElem hlt⟩
        have c1 := hcs n z hz
        have ht := tot_all ha
        have hlen : (ws.take n).length = n := by rw [List.length_take]; omega
        rw [hlen] at ht
        have hts := tot_step hz
        clear hlen
        cases hk : okW z
        · have hno := all_no hz hk
          have hd := H.out
          rw [hno, if_pos (by decide)] at hd
          cases hd
          have hzz : ¬ (0 ≤ z ∧ z ≤ 1000000000) := fun e => by rw [okW_iff.2 e] at hk; cases hk
          clear hno hz hcs ha hk ht hts
          go_wp2
          all_goals first
            | (go_ret2; exact gives_nil _ _ (Below.refl _ _))
            | (exfalso; omega)
            | go_show
        · obtain ⟨z0, z1⟩ := okW_iff.1 hk
          have HA := Lib.hid (all_take ha hz hk)
          obtain ⟨t, htt⟩ : ∃ t, tot (ws.take n) = t := ⟨_, rfl⟩
          rw [htt] at ht hts
          rw [htt]
          have HT := Lib.hid hts
          clear hz hcs ha hk hts htt
          go_wp2
          go_round
          case rel => exact ⟨n + 1, by omega, by go_num, by rw [HT.out], HA.out⟩
          case measure => simp [intOf]; omega
      · obtain rfl : n = ws.length := by omega
        rw [List.take_length] at ha ⊢
        have hd := H.out
        rw [ha, if_neg (by decide)] at hd
        have ht := tot_all ha
        by_cases h64 : 64 < ws.length
        · rw [if_pos h64] at hd
          cases hd
          obtain ⟨S, hS⟩ : ∃ S, tot ws = S := ⟨_, rfl⟩
          rw [hS]
          clear ha ht hS
          go_wp2
          go_ret2
          exact gives_nil _ _ (Below.refl _ _)
        · rw [if_neg h64] at hd
          obtain ⟨S, hS⟩ : ∃ S, tot ws = S := ⟨_, rfl⟩
          rw [hS] at hd ht
          rw [hS]
          by_cases hS0 : S = 0
          · rw [if_pos hS0] at hd
            cases hd
            subst hS0
            clear ha ht hS
            go_wp2
            go_ret2
            exact gives_nil _ _ (Below.refl _ _)
          · rw [if_neg hS0] at hd
            have hs0 : (S == 0) = false := by simpa using hS0
            obtain ⟨a, haa⟩ : ∃ a : Int, (c.natAbs : Int) = a := ⟨_, rfl⟩
            rw [haa] at hd
            have a0 : 0 ≤ a := by omega
            have a1 : a ≤ 1000000000000000 := by omega
            have S0 : 1 ≤ S := by omega
            have S1 : S ≤ 64000000000 := by omega
            have HAA := Lib.hid haa
            have HS := Lib.hid hS
            have HAL := Lib.hid ha
            have HD := Lib.hid hd
            clear haa hS ha hd ht hS0
            go_wp2_with (first | (go_at_call 21; (with_reducible refine (rAbs_is c a _ (by omega) HAA.out).mono ?_); rintro e w' ⟨rfl, rfl⟩) | fail)
            go_loopw [9, 10, 11, 12] (fun o r lf i wr => ∃ n : Nat, n ≤ ws.length ∧ i = .int .i64 n ∧ lf = .int .i64 (taken a S ws n) ∧ Two w wr o r ((ws.take n).map (base a S)) ((ws.take n).map (rest a S))) (fun _ _ _ i _ => ws.length - (intOf i).toNat)
            case atStart => exact ⟨0, Nat.zero_le _, rfl, by rw [taken_zero], Two.nil w⟩
            case round =>
              obtain ⟨n, hn, rfl, rfl, hT⟩ := hrel
              by_cases hlt : n < ws.length
              · obtain ⟨g, off, x, hva, hg, hcs⟩ := (hT.old HV.out).form (by omega)
                simp only [Value.slice.injEq] at hva
                obtain ⟨rfl, -, -⟩ := hva
                obtain ⟨z, hz⟩ : ∃ z, ws[n]? = some z := ⟨_, List.getElem?_eq_getElem hlt⟩
                have c1 := hcs n z hz
                have HT := Lib.hid hT
                have hzm : z ∈ ws := List.mem_of_getElem? hz
                have hzk := okW_iff.1 (List.all_eq_true.1 HAL.out z hzm)
                have hzS : z ≤ S := by
                  have := mem_le_tot (l := ws) (fun x hx => (okW_iff.1 (List.all_eq_true.1 HAL.out x hx)).1) hzm
                  rw [HS.out] at this; exact this
                have hsp := split_base (a := a) (S := S) (w := z) (by omega)
                have hb0 := base_nonneg (a := a) (S := S) (w := z) a0 (by omega) hzk.1
                have hb1 := base_le (a := a) (S := S) (w := z) a0 (by omega) hzS
                have hr01 := rest_bounds a (S := S) (by omega) z
                have htk := taken_bounds a0 a1 (S := S) (by omega) (fun x hx => (okW_iff.1 (List.all_eq_true.1 HAL.out x hx)).1) (fun x hx => by
                  have := mem_le_tot (l := ws) (fun x hx => (okW_iff.1 (List.all_eq_true.1 HAL.out x hx)).1) hx
                  rw [HS.out] at this; exact this) n hn
                have htn := taken_step (a := a) (S := S) hz
                have hm1 := map_step (f := base a S) hz
                have hm2 := map_step (f := rest a S) hz
                obtain ⟨q, hq⟩ : ∃ q, base a S z = q := ⟨_, rfl⟩
                obtain ⟨r, hr⟩ : ∃ r, rest a S z = r := ⟨_, rfl⟩
                obtain ⟨x, hx⟩ : ∃ x, a % S = x := ⟨_, rfl⟩
                obtain ⟨y, hy⟩ : ∃ y, a / S = y := ⟨_, rfl⟩
                have hx01 : 0 ≤ x ∧ x < S := by rw [← hx]; exact ⟨Int.emod_nonneg _ (by omega), Int.emod_lt_of_pos _ (by omega)⟩
                have hy0 : 0 ≤ y := by rw [← hy]; exact Int.ediv_nonneg a0 (by omega)
                have hy1 : y ≤ a := by rw [← hy]; exact Int.ediv_le_self _ a0
                rw [hx, hy, hq, hr] at hsp
                rw [hq] at hb0 hb1 htn hm1
                rw [hr] at hr01 hm2
                obtain ⟨p, hp⟩ : ∃ p, y * z = p := ⟨_, rfl⟩
                obtain ⟨q0, hq0⟩ : ∃ q0, x * z / S = q0 := ⟨_, rfl⟩
                have hp0 : 0 ≤ p := by rw [← hp]; exact Int.mul_nonneg hy0 hzk.1
                have hq00 : 0 ≤ q0 := by rw [← hq0]; exact Int.ediv_nonneg (Int.mul_nonneg hx01.1 hzk.1) (by omega)
                rw [hp, hq0] at hsp
                have f1 : a.tmod S = x := by rw [tmod_of a0, hx]
                have f2 : a.tdiv S = y := by rw [tdiv_of a0, hy]
                have f3 : wrap64 y = y := IntWalk.wrap64_in y ⟨by omega, by omega⟩
                have f3b : IntKind.i64.wrap y = y := i64_in (by omega) (by omega)
                have f4 : IntKind.i64.wrap p = p := i64_in (by omega) (by omega)
                have f5 : q0 + p = q := hsp.1
                have f6 : IntKind.i64.wrap q = q := i64_in (by omega) (by omega)
                obtain ⟨t, htt⟩ : ∃ t, taken a S ws n = t := ⟨_, rfl⟩
                rw [htt] at htk htn
                rw [htt]
                have f7 : IntKind.i64.wrap (t - q) = t - q := i64_in (by omega) (by omega)
                have HPR := Lib.hid (And.intro hx01 (And.intro hzk (And.intro hq0 hsp.2)))
                have HTN := Lib.hid htn
                have HM := Lib.hid (And.intro hm1 hm2)
                have tokA : True := trivial
                clear hT hcs hz hzm hzS hsp hr01 htn hm1 hm2 hq hr hx hy hq0 htt
                go_wp2
                go_quiet ((go_at_call 37; with_reducible exact quiet_eq (rpart_is x z S q0 r _ HPR.out.1.1 HPR.out.1.2 (by omega) HPR.out.2.1.1 (by omega) HPR.out.2.2.1 HPR.out.2.2.2)))
                go_wp2
                go_quiet (fail)
                go_wp2_with (first
                  | (at_builtin; have _t := tokA; refine wpList_append_int_at rfl _ _ rfl w.heap.size _ ((ws.take n).map (base a S)) rfl (HT.out.drewN _).fst q rfl (by simp; omega) (HT.out.drewN _).below.size ?_; intro v1 w1 hown1 hg1 hat1; have T1 := Lib.hid ((HT.out.drewN _).push hown1 hg1 hat1); clear tokA hown1 hg1 hat1)
                  | (at_builtin; refine wpList_append_int_at rfl _ _ rfl w.heap.size _ ((ws.take n).map (rest a S)) rfl T1.out.snd r rfl (by simp; omega) T1.out.below.size ?_; intro v2 w2 hown2 hg2 hat2; have T2 := Lib.hid (T1.out.swap.push hown2 hg2 hat2); clear hown2 hg2 hat2)
                  | fail)
                go_roundw
                case rel => exact ⟨n + 1, by omega, by go_num, by rw [HTN.out], by rw [HM.out.1, HM.out.2]; exact T2.out.swap⟩
                case measure => simp [intOf]; omega
              · obtain rfl : n = ws.length := by omega
                rw [List.take_length, ← outsAt_zero, show ws.map (rest a S) = restsAt a S ws 0 from (restsAt_zero a S ws).symm] at hT
                rw [taken_all]
                have hw0 : 0 < ws.length := by
                  rcases Nat.eq_zero_or_pos ws.length with e | e
                  · exfalso
                    have h0 := HS.out
                    rw [List.length_eq_zero_iff.1 e] at h0
                    simp [tot] at h0; omega
                  · exact e
                have hlnn := left_nonneg (a := a) HS.out (by omega)
                have hlle := left_lt (a := a) HS.out (by omega)
                obtain ⟨L, hL⟩ : ∃ L : Nat, left a S ws = L := ⟨(left a S ws).toNat, by omega⟩
                rw [hL] at hlle
                rw [hL]
                obtain ⟨go, co, rfl⟩ := hT.form_n (outsAt_length _ _ _ _) hw0
                obtain ⟨gr, cr, rfl⟩ := hT.swap.form_n (restsAt_length _ _ _ _) hw0
                have HT := Lib.hid hT
                have HL := Lib.hid hL
                have HF := Lib.hid (outsAt_left hL)
                clear hT hL hlnn
                go_wp2
                go_loopw [11] (fun lf wr => ∃ t : Nat, t ≤ L ∧ lf = .int .i64 ((L : Int) - t) ∧ Two w wr (.slice (some ⟨go, 0, none⟩) ws.length co) (.slice (some ⟨gr, 0, none⟩) ws.length cr) (outsAt a S ws t) (restsAt a S ws t)) (fun lf _ => (intOf lf).toNat)
                case atStart => exact ⟨0, Nat.zero_le _, by simp, HT.out⟩
                case round =>
                  obtain ⟨t, ht, rfl, hT⟩ := hrel
                  have HT := Lib.hid hT
                  clear hT
                  by_cases htL : t < L
                  · have hpos : (0 : Int) < (L : Int) - t := by omega
                    have HB := Lib.hid (outs_bounds a0 a1 (S := S) (by omega) (ws := ws) (fun x hx => (okW_iff.1 (List.all_eq_true.1 HAL.out x hx)).1) (fun x hx => by
                      have := mem_le_tot (l := ws) (fun x hx => (okW_iff.1 (List.all_eq_true.1 HAL.out x hx)).1) hx
                      rw [HS.out] at this; exact this) t)
                    have hL0 : 0 ≤ (L : Int) - t - 1 := by omega
                    have hL1 : (L : Int) - t - 1 ≤ 300 := by omega
                    go_wp2_with (first
                      | (go_at_call 38
                         (with_reducible refine (rgreatest_is _ (restsAt a S ws t) _ (HT.out.swap.ints (by rw [restsAt_length]; omega))).mono ?_)
                         rintro e w' ⟨⟨c2, rfl, hc2⟩, m, rfl⟩
                         rw [restsAt_length] at hc2
                         obtain ⟨k, rfl, hk, hr⟩ := best_next HS.out (by omega) (by rw [HL.out]; omega) hc2
                         obtain ⟨z, hz⟩ : ∃ z, (outsAt a S ws t)[k]? = some z := ⟨_, outsAt_at hk⟩
                         obtain ⟨hz0, hz1⟩ := HB.out k z hz
                         have T0 := HT.out.drewN m
                         have d1 := T0.cell_n (outsAt_length _ _ _ _) hz
                         have d2 := T0.thaw (outsAt_length _ _ _ _) k
                         have T1 := T0.store_n (outsAt_length _ _ _ _) k (z + 1) (outsAt_step hk hr hz)
                         obtain ⟨y, hy⟩ : ∃ y, (restsAt a S ws t)[k]? = some y := ⟨_, restsAt_at hk⟩
                         have d3 := T1.swap.cell_n (restsAt_length _ _ _ _) hy
                         have d4 := T1.swap.thaw (restsAt_length _ _ _ _) k
                         have T2 := Lib.hid (T1.swap.store_n (restsAt_length _ _ _ _) k 0 (restsAt_step hk hr))
                         clear T0 T1 hy hz hc2 hr)
                      | fail)
                    go_roundw
                    case rel => exact ⟨t + 1, by omega, by go_num, T2.out.swap⟩
                    case measure => simp [intOf]; omega
                  · obtain rfl : t = L := by omega
                    have hT := HT.out
                    have HB := Lib.hid (outs_bounds a0 a1 (S := S) (by omega) (ws := ws) (fun x hx => (okW_iff.1 (List.all_eq_true.1 HAL.out x hx)).1) (fun x hx => by
                      have := mem_le_tot (l := ws) (fun x hx => (okW_iff.1 (List.all_eq_true.1 HAL.out x hx)).1) hx
                      rw [HS.out] at this; exact this) t)
                    have hlen := outsAt_length a S ws t
                    rw [HF.out] at hT hlen
                    rw [HF.out] at HB
                    obtain ⟨sh, hsh⟩ : ∃ sh, shares a S ws = sh := ⟨_, rfl⟩
                    have hd := HD.out
                    rw [hsh] at hd
                    rw [hsh] at hT hlen HB
                    have HT2 := Lib.hid hT
                    have HLEN := Lib.hid hlen
                    have HD2 := Lib.hid hd
                    have hz0 : ¬ (0 : Int) < (t : Int) - t := by omega
                    clear hT hlen hd hsh HT HF
                    go_wp2
                    go_loopw [16] (fun i wr => ∃ j : Nat, j ≤ ws.length ∧ (¬ c < 0 → j = 0) ∧ i = .int .i64 j ∧ Two w wr (.slice (some ⟨go, 0, none⟩) ws.length co) (.slice (some ⟨gr, 0, none⟩) ws.length cr) (negTo sh j) (restsAt a S ws t)) (fun i _ => ws.length - (intOf i).toNat)
                    case atStart => exact ⟨0, Nat.zero_le _, fun _ => rfl, rfl, by rw [negTo_zero]; exact HT2.out⟩
                    case round =>
                      obtain ⟨j, hj, hj0, rfl, hT⟩ := hrel
                      have HT := Lib.hid hT
                      clear hT
                      by_cases hc : c < 0
                      · have hcd : decide (c < 0) = true := by simpa using hc
                        by_cases hjl : j < ws.length
                        · obtain ⟨z, hz⟩ : ∃ z, sh[j]? = some z := ⟨_, List.getElem?_eq_getElem (by rw [HLEN.out]; exact hjl)⟩
                          have hzb : 0 ≤ z ∧ z ≤ 1000000000000001 := HB.out j z hz
                          obtain ⟨hz0, hz1⟩ := hzb
                          have hnl : (negTo sh j).length = ws.length := by rw [negTo_length, HLEN.out]
                          have d1 := HT.out.cell_n hnl (negTo_at hz)
                          have d2 := HT.out.thaw hnl j
                          have T1 := Lib.hid (HT.out.store_n hnl j (-z) (negTo_step hz))
                          clear hz hnl hj0
                          go_wp2
                          go_roundw
                          case rel => exact ⟨j + 1, by omega, fun h => absurd hc h, by go_num, T1.out⟩
                          case measure => simp [intOf]; omega
                        · obtain rfl : j = ws.length := by omega
                          have hd := HD2.out
                          rw [if_pos hc] at hd
                          cases hd
                          have hT := HT.out
                          rw [← HLEN.out, negTo_all, HLEN.out] at hT
                          have HG := Lib.hid (hT.ints (by rw [List.length_map, HLEN.out]; omega))
                          have HG2 := Lib.hid hT.below
                          clear hT
                          go_wp2
                          go_ret2
                          exact ⟨⟨_, rfl, HG.out⟩, HG2.out⟩
                      · have hcd : decide (c < 0) = false := by simpa using hc
                        obtain rfl : j = 0 := hj0 hc
                        have hd := HD2.out
                        rw [if_neg hc] at hd
                        cases hd
                        have hT := HT.out
                        rw [negTo_zero] at hT
                        have HG := Lib.hid (hT.ints (by rw [HLEN.out]; omega))
                        have HG2 := Lib.hid hT.below
                        clear hT
                        go_wp2
                        go_ret2
                        exact ⟨⟨_, rfl, HG.out⟩, HG2.out⟩
  · rw [hb, if_pos rfl] at h
    cases h
    have HB := Lib.hid hb
    clear hb hv
    go_enter Try.func18, Try.ntmps18
    go_wp2_with (first | (go_at_call 20; (with_reducible refine (rBeyond_is c _ true _ (by decide) (by decide) HB.out).mono ?_); rintro e w' ⟨rfl, rfl⟩) | fail)
    go_ret2
    exact gives_nil _ _ (Below.refl _ _)
end Go.Proofs.Ytikcnekaefelcaa.money
