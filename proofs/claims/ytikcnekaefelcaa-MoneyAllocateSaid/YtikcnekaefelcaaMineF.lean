/-
  What package money's Allocate answers: the walk.
-/
import Derived.Test.YtikcnekaefelcaaMineD
import Derived.Test.YtikcnekaefelcaaMineE
import Derived.Test.YtikcnekaefelcaaGreat
namespace Go.Proofs.Ytikcnekaefelcaa.money
open Go Go.RowKit Go.Proofs.Ytikcnekaefelcaa.ints Go.Proofs.Ytikcnekaefelcaa.alloc Go.Proofs.Ytikcnekaefelcaa.rank Go.Proofs.Ytikcnekaefelcaa.order Go.Proofs.Ytikcnekaefelcaa.great Go.Proofs.Ytikcnekaefelcaa.div64
set_option linter.unusedVariables false

theorem totalW_err {c t k : Int} {ws : List Int} (h : totalW c ws = (t, k)) (hk : k ≠ 0) : t = 0 ∧ allocR c ws = ([], k) := by
  unfold totalW at h
  unfold allocR
  by_cases h1 : beyond c 1000000000000000 = true
  · rw [if_pos h1] at h ⊢
    cases h; exact ⟨rfl, rfl⟩
  · rw [if_neg h1] at h ⊢
    by_cases h2 : (!ws.all okW) = true
    · rw [if_pos h2] at h ⊢
      cases h; exact ⟨rfl, rfl⟩
    · rw [if_neg h2] at h ⊢
      by_cases h3 : 64 < ws.length
      · rw [if_pos h3] at h ⊢
        cases h; exact ⟨rfl, rfl⟩
      · rw [if_neg h3] at h ⊢
        by_cases h4 : tot ws = 0
        · rw [if_pos h4] at h ⊢
          cases h; exact ⟨rfl, rfl⟩
        · rw [if_neg h4] at h
          cases h; exact absurd rfl hk
theorem totalW_ok {c t : Int} {ws : List Int} (h : totalW c ws = (t, 0)) :
    beyond c 1000000000000000 = false ∧ ws.all okW = true ∧ ws.length ≤ 64 ∧ tot ws ≠ 0 ∧ tot ws = t ∧ allocR c ws = (if c < 0 then (shares c.natAbs (tot ws) ws).map (fun x => -x) else shares c.natAbs (tot ws) ws, 0) := by
  unfold totalW at h
  unfold allocR
  cases h1 : beyond c 1000000000000000
  · rw [h1, if_neg (by decide)] at h
    cases h2 : ws.all okW
    · rw [h2] at h; cases h
    · rw [h2, if_neg (by decide)] at h
      by_cases h3 : 64 < ws.length
      · rw [if_pos h3] at h; cases h
      · rw [if_neg h3] at h
        by_cases h4 : tot ws = 0
        · rw [if_pos h4] at h; cases h
        · rw [if_neg h4] at h
          cases h
          refine ⟨rfl, rfl, by omega, h4, rfl, ?_⟩
          rw [if_neg (by decide), if_neg (by decide), if_neg h3, if_neg h4]
  · rw [h1, if_pos rfl] at h; cases h

/-- the places by their rests, at the length's own name -/
def GivesPlaces (w : World) (n : Nat) (r : List Int) (e : Ending) (w' : World) : Prop :=
  (∃ (g : Nat) (L : List Int), e = .returned (.slice (some ⟨g, 0, none⟩) n n) ∧ w.heap.size ≤ g ∧ (∀ j z, L[j]? = some z → w'.cell? ⟨g, j, none⟩ = some (.int .i64 z)) ∧ Ordered r L) ∧ Below w.heap.size w w'
theorem places_is (w : World) (rb cap n : Nat) (r : List Int) (hn : r.length = n) (h0 : 0 < n) (h64 : n ≤ 64) (hrb : rb < w.heap.size) (hr : ∀ i z, r[i]? = some z → w.cell? ⟨rb, i, none⟩ = some (.int .u64 z)) :
    Calls Try.prog 35 #[.slice (some ⟨rb, 0, none⟩) n cap] w (GivesPlaces w n r) := by
  obtain ⟨k, rfl⟩ : ∃ k, n = k + 1 := ⟨n - 1, by omega⟩
  refine (greatestFirst_is w rb 0 cap k r hn h64 hrb (fun i z h => by rw [Nat.zero_add]; exact hr i z h)).mono ?_
  rintro e w' ⟨⟨g, L, rfl, h1, h2, h3⟩, hb⟩
  exact ⟨⟨g, L, by rw [hn], h1, h2, h3⟩, hb⟩

theorem made_zeros (z : Value) (n : Nat) (hz : z.cells = #[z]) (f : Int → Value) (h0 : f 0 = z) : (madeCells z.cells (n * 1)).toList = (List.replicate n (0 : Int)).map f := by
  rw [hz, Nat.mul_one, toList_madeCells_one, List.map_replicate, h0]
theorem cell_other {w : World} {g g2 j i : Nat} {x v : Value} (h : w.cell? ⟨g, j, none⟩ = some v) (hne : g ≠ g2) : (w.setCell ⟨g2, i, none⟩ x).cell? ⟨g, j, none⟩ = some v := by
  have e : (⟨g2, i, none⟩ : Addr) ≠ ⟨g, j, none⟩ := fun e => hne (by injection e with e; exact e.symm)
  have := World.cell?_setCell_other w _ _ x e
  rw [this]; exact h

theorem duo_start {w w2 w3 : World} {n : Nat} {ws : List Int} (hn : ws.length = n) (f1 f2 : Int → Int)
    (hown2 : w2.ownsRow w.heap.size 3 1 (.slice (some ⟨w.heap.size, 0, none⟩) n n) n (madeCells (Value.int .i64 0).cells (n * 1)).toList) (hgr2 : w.grownBy w2 none)
    (hown3 : w3.ownsRow w.heap.size 39 1 (.slice (some ⟨w2.heap.size, 0, none⟩) n n) n (madeCells (Value.int .u64 0).cells (n * 1)).toList) (hgr3 : w2.grownBy w3 none) :
    Duo w w3 (.slice (some ⟨w.heap.size, 0, none⟩) n n) (.slice (some ⟨w2.heap.size, 0, none⟩) n n) (filled f1 ws 0) (filled f2 ws 0) := by
  have e1 := made_zeros (.int .i64 0) n rfl intV rfl
  have e2 := made_zeros (.int .u64 0) n rfl u64V rfl
  rw [e1] at hown2
  rw [e2] at hown3
  have hlt : w.heap.size < w2.heap.size := (hown2.lt _ rfl).2
  rw [filled_zero, filled_zero, hn]
  refine ⟨((Below.refl _ _).grown hgr2 (Nat.le_refl _) (fun k hk => by cases hk)).grown hgr3 hgr2.size (fun k hk => by cases hk), ?_, ?_, fun g a b => ?_⟩
  · rw [List.length_replicate]; exact ownsRow_keep hown2 hgr3 (fun g _ e => by cases e)
  · rw [List.length_replicate]; exact hown3
  · have ha : some w.heap.size = some g := a
    have hb : some w2.heap.size = some g := b
    have := ha.trans hb.symm
    have := Option.some.inj this
    omega

/-- the numbers of a round: the share of a weight rounded down, and its rest -/
theorem round_of {a S z : Nat} (ha : a ≤ 1000000000000000) (hS : 0 < S) (hz : z ≤ S) (hS2 : S < 18446744073709551616) : ∃ hi lo q r : Nat, a * z / 18446744073709551616 = hi ∧ a * z % 18446744073709551616 = lo ∧ hi < S ∧ lo < 18446744073709551616 ∧
    (hi * 18446744073709551616 + lo) / S = q ∧ (hi * 18446744073709551616 + lo) % S = r ∧ q ≤ a ∧ base (a : Int) (S : Int) (z : Int) = q ∧ rest (a : Int) (S : Int) (z : Int) = r := by
  have h1 : a * z ≤ a * S := Nat.mul_le_mul_left _ hz
  have h2 : a * S < 18446744073709551616 * S := Nat.mul_lt_mul_of_pos_right (by omega) hS
  have e : a * z / 18446744073709551616 * 18446744073709551616 + a * z % 18446744073709551616 = a * z := by rw [Nat.mul_comm]; exact Nat.div_add_mod _ _
  refine ⟨_, _, _, _, rfl, rfl, (Nat.div_lt_iff_lt_mul (by omega)).2 (by rw [Nat.mul_comm S]; omega), Nat.mod_lt _ (by omega), rfl, rfl, ?_, ?_, ?_⟩
  · rw [e]
    have := Nat.div_le_div_right (c := S) h1
    rwa [Nat.mul_div_cancel _ hS] at this
  · rw [e]; unfold base; rw [← Int.natCast_mul]; rfl
  · rw [e]; unfold rest; rw [← Int.natCast_mul]; rfl

set_option maxHeartbeats 4000000 in
set_option maxRecDepth 100000 in
theorem Allocate_is (c : Int) (v : Value) (ws l : List Int) (k : Int) (w : World) (hv : Ints w v ws) (_hl : ws.length ≤ 300) (h : allocR c ws = (l, k)) : Calls Try.prog 17 #[.int .i64 c, v] w (GivesInts w l k) := by
  obtain ⟨t, k2, htw⟩ : ∃ t k2, totalW c ws = (t, k2) := ⟨_, _, rfl⟩
  have HTW := Lib.hid (totalWeight_is c t k2 v ws w hv htw)
  obtain ⟨A, cp, rfl⟩ := hv.form0
  have HV := Lib.hid hv
  by_cases hk : k2 = 0
  · subst hk
    obtain ⟨h1, h2, h3, h4, h5, h6⟩ := totalW_ok htw
    rw [h6] at h
    have c1 := beyond_in h1
    obtain ⟨c0, c1⟩ := c1
    obtain ⟨n, hn⟩ : ∃ n, ws.length = n := ⟨_, rfl⟩
    have hok : ∀ x ∈ ws, 0 ≤ x ∧ x ≤ 1000000000 := fun x hx => okW_iff.1 (List.all_eq_true.1 h2 x hx)
    have htb := tot_all h2
    obtain ⟨S, hS⟩ : ∃ S : Nat, (S : Int) = tot ws := ⟨(tot ws).toNat, by omega⟩
    obtain ⟨a, ha⟩ : ∃ a, c.natAbs = a := ⟨_, rfl⟩
    have ha1 : a ≤ 1000000000000000 := by omega
    have hS0 : 0 < S := by omega
    have hS2 : S ≤ 64000000000 := by omega
    have n64 : n ≤ 64 := by omega
    have n0 : 0 < n := by
      rcases Nat.eq_zero_or_pos n with e | e
      · exfalso
        rw [e] at hn
        rw [List.eq_nil_of_length_eq_zero hn] at h4
        exact h4 rfl
      · exact e
    have hle : ∀ x ∈ ws, x ≤ (S : Int) := fun x hx => by rw [hS]; exact mem_le_tot (fun y hy => (hok y hy).1) hx
    rw [← hS] at h h5
    subst h5
    have HL := Lib.hid h
    have HN := Lib.hid hn
    have HOK := Lib.hid (And.intro hok (And.intro hle hS.symm))
    have HA := Lib.hid (show (c.natAbs : Int) = (a : Int) by rw [ha])
    have HAN := Lib.hid ha
    have wa : IntKind.i64.wrap (a : Int) = a := i64_in (by omega) (by omega)
    rw [hn] at HV HTW ⊢
    obtain ⟨i0, hi, hz0, hz1, hz2⟩ := info_parts intInfo
    have HI := Lib.hid (And.intro hi (And.intro hz0 (And.intro hz1 hz2)))
    obtain ⟨i1, ji, jz0, jz1, jz2⟩ := info_parts u64Info
    have HJ := Lib.hid (And.intro ji (And.intro jz0 (And.intro jz1 jz2)))
    clear hi hz0 hz1 hz2 ji jz0 jz1 jz2 hv h htw h1 h2 h3 h4 h6 hn hok htb hS ha hle
    go_enter Try.func17, Try.ntmps17
    go_wp2_with (first
      | (go_at_call 34; refine HTW.out.mono ?_; rintro e w' ⟨rfl, rfl⟩)
      | (go_at_call 31; (with_reducible refine (mAbs_is c a _ (by omega) (by omega) HA.out).mono ?_); rintro e w' ⟨rfl, rfl⟩)
      | (at_make; refine wpList_make_full _ rfl _ _ 29 rfl w.heap.size 3 i0 (.int .i64 0) 1 Try.underlying29 HI.out.1 HI.out.2.1 HI.out.2.2.1 .i64 .i64 _ _ n rfl rfl rfl rfl (by rw [HI.out.2.2.2]; omega) (by unfold maxLen; omega) (Nat.le_refl _) ?_; intro w2 hown2 hgr2)
      | (at_make; refine wpList_make_full _ rfl _ _ 51 rfl w.heap.size 39 i1 (.int .u64 0) 1 Try.underlying51 HJ.out.1 HJ.out.2.1 HJ.out.2.2.1 .i64 .i64 _ _ n rfl rfl rfl rfl (by rw [HJ.out.2.2.2]; omega) (by unfold maxLen; omega) hgr2.size ?_; intro w3 hown3 hgr3)
      | fail)
    have hsz2 : w.heap.size < w2.heap.size := (hown2.lt _ rfl).2
    have HD0 := Lib.hid (duo_start HN.out (base a S) (rest a S) hown2 hgr2 hown3 hgr3)
    clear hown2 hgr2 hown3 hgr3
    have d12 : ¬ w.heap.size = w2.heap.size := by omega
    have d21 : ¬ w2.heap.size = w.heap.size := by omega
    go_loopw [10, 39] (fun vl vi wr => ∃ (i : Nat) (t : Int), i ≤ n ∧ vi = .int .i64 i ∧ vl = .int .i64 t ∧ -64000000000000000 ≤ t ∧ t ≤ 1000000000000000 ∧ Hid (taken a S ws i = t ∧ Duo w wr (.slice (some ⟨w.heap.size, 0, none⟩) n n) (.slice (some ⟨w2.heap.size, 0, none⟩) n n) (filled (base a S) ws i) (filled (rest a S) ws i))) (fun _ vi _ => n - (intOf vi).toNat)
    case atStart => exact ⟨0, a, Nat.zero_le _, rfl, rfl, by omega, by omega, (show _ from ⟨taken_zero _ _ _, HD0.out⟩)⟩
    case round =>
      obtain ⟨i, t, hin, rfl, rfl, t0, t1, HD⟩ := hrel
      by_cases hlt : i < n
      · obtain ⟨ga, oa, xa, hva, hga, hca⟩ := HV.out.form (by rw [HN.out]; exact n0)
        simp only [Value.slice.injEq] at hva
        obtain ⟨rfl, -, -⟩ := hva
        obtain ⟨z, hz⟩ : ∃ z, ws[i]? = some z := ⟨_, List.getElem?_eq_getElem (by rw [HN.out]; exact hlt)⟩
        have hzk := HOK.out.1 z (List.mem_of_getElem? hz)
        have hzS := HOK.out.2.1 z (List.mem_of_getElem? hz)
        have cz : wr.cell? ⟨ga, oa + i, none⟩ = some (.int .i64 z) := by
          rw [HD.out.2.below.cell (p := ⟨ga, oa + i, none⟩) hga]; exact hca i z hz
        obtain ⟨zn, rfl⟩ : ∃ zn : Nat, z = zn := ⟨z.toNat, by omega⟩
        obtain ⟨hi, lo, q, r, e1, e2, b1, b2, e3, e4, qa, eb, er⟩ := round_of (a := a) (S := S) (z := zn) ha1 hS0 (by omega) (by omega)
        have uz : IntKind.u64.wrap (zn : Int) = zn := by rw [IntKind.wrap_u64]; omega
        have iq : IntKind.i64.wrap (q : Int) = q := i64_in (by omega) (by omega)
        have HMU := Lib.hid (fun W => Mul64_is a zn hi lo W (by omega) (by omega) e1 e2)
        have HDV := Lib.hid (fun W => Div64_is hi lo S W (by omega) b1 b2 q r e3 e4)
        have l1 : (filled (base a S) ws i).length = n := by rw [filled_length _ _ (by rw [HN.out]; exact hin)]; exact HN.out
        have l2 : (filled (rest a S) ws i).length = n := by rw [filled_length _ _ (by rw [HN.out]; exact hin)]; exact HN.out
        have k1 := HD.out.2.cell1 l1 (filled_at (base a S) (by rw [HN.out]; exact hlt))
        have k2 := HD.out.2.cell2 l2 (filled_at (rest a S) (by rw [HN.out]; exact hlt))
        have f1 := HD.out.2.thaw1 l1 i
        have f2 := HD.out.2.thaw2 l2 i
        have s1 := filled_step (base a S) hz
        have s2 := filled_step (rest a S) hz
        rw [eb] at s1
        rw [er] at s2
        have htk := taken_step (a := (a : Int)) (S := (S : Int)) hz
        rw [HD.out.1, eb] at htk
        have hbd := taken_bounds (a := (a : Int)) (S := (S : Int)) (ws := ws) (by omega) (by omega) (by omega) (fun x hx => (HOK.out.1 x hx).1) (fun x hx => HOK.out.2.1 x hx) (i + 1) (by rw [HN.out]; exact hlt)
        rw [htk] at hbd
        have tq0 : -64000000000000000 ≤ t - q := by
          have := hbd.1
          have h64 : ((i + 1 : Nat) : Int) ≤ 64 := by omega
          have := Int.mul_le_mul_of_nonneg_left h64 (show (0 : Int) ≤ 1000000000000000 by decide)
          omega
        have wt : IntKind.i64.wrap (t - (q : Int)) = t - (q : Int) := i64_in (by omega) (by omega)
        have HST := Lib.hid (fun nd => ((HD.out.2.drewN nd).store1 l1 i q s1).store2 l2 i r s2)
        have HTK := Lib.hid htk
        clear hca hz e1 e2 e3 e4 eb er l1 l2 s1 s2 htk hbd b1 b2 hzk hzS
        go_wp2_with (first
          | (go_at_call 31; (with_reducible refine (mAbs_is c a _ (by omega) (by omega) HA.out).mono ?_); rintro e w' ⟨rfl, rfl⟩)
          | (go_at_call 30; refine (HMU.out _).mono ?_; rintro e w' ⟨rfl, rfl⟩)
          | (go_at_call 32; refine (HDV.out _).mono ?_; rintro e w' ⟨rfl, nd, rfl⟩)
          | fail)
        go_roundw
        case rel => exact ⟨i + 1, t - q, by omega, by go_num, rfl, tq0, by omega, (show _ from ⟨HTK.out, HST.out nd⟩)⟩
        case measure => simp [intOf]; omega
      · obtain rfl : i = n := by omega
        have htl : t = left a S ws := by
          have := HD.out.1
          rw [← HN.out] at this
          rw [← this]; exact taken_all _ _ _
        have hD := HD.out.2
        rw [← HN.out, filled_all, filled_all] at hD
        have hl0 := left_nonneg (a := (a : Int)) HOK.out.2.2 (by omega)
        have hl1 := left_lt (a := (a : Int)) HOK.out.2.2 (by omega)
        rw [← htl] at hl0 hl1
        rw [HN.out] at hl1 hD
        obtain ⟨m, rfl⟩ : ∃ m : Nat, t = m := ⟨t.toNat, by omega⟩
        have hmn : m ≤ i := by omega
        have hlr : (rests (a : Int) (S : Int) ws).length = i := by unfold rests; rw [List.length_map]; exact HN.out
        have hrl : (ws.map (rest (a : Int) (S : Int))).length = i := by rw [List.length_map]; exact HN.out
        have hrb : w2.heap.size < wr.heap.size := (hD.snd.lt _ rfl).2
        have HG := Lib.hid (places_is wr w2.heap.size i i (rests (a : Int) (S : Int) ws) hlr n0 n64 hrb (fun j z hz => hD.cell2 hrl hz))
        have HDD := Lib.hid hD
        have HTL := Lib.hid htl
        clear hD htl hlr hrl
        go_wp2_with (go_at_call 35; refine HG.out.mono ?_; rintro e w4 ⟨⟨g, L, rfl, hgL, hcL, hOrd⟩, hb4⟩; have HCL := Lib.hid hcL; clear hcL)
        have hgw : ¬ g = w.heap.size := by omega
        have hout : ws.length = i := HN.out
        go_loopw [78] (fun vi wr => ∃ x : Nat, x ≤ m ∧ vi = .int .i64 x ∧ Hid (Duo w wr (.slice (some ⟨w.heap.size, 0, none⟩) i i) (.slice (some ⟨w2.heap.size, 0, none⟩) i i) (outsAt a S ws x) (ws.map (rest a S)) ∧ ∀ j z, L[j]? = some z → wr.cell? ⟨g, j, none⟩ = some (.int .i64 z))) (fun vi _ => m - (intOf vi).toNat)
        case atStart => exact ⟨0, Nat.zero_le _, rfl, (show _ from ⟨by rw [outsAt_zero]; exact HDD.out.later hb4, HCL.out⟩)⟩
        case round =>
          obtain ⟨x, hxm, rfl, HX⟩ := hrel
          by_cases hlx : x < m
          · obtain ⟨p, hLp, hpr, hrank⟩ := hOrd.2 x (by rw [show (rests (a : Int) (S : Int) ws).length = i by unfold rests; rw [List.length_map]; exact HN.out]; omega)
            have hpi : p < ws.length := by
              rw [show (rests (a : Int) (S : Int) ws).length = ws.length by unfold rests; rw [List.length_map]] at hpr; exact hpr
            have lo : (outsAt (a : Int) (S : Int) ws x).length = i := by rw [outsAt_length]; exact HN.out
            obtain ⟨z1, hz1⟩ : ∃ z1, (outsAt (a : Int) (S : Int) ws x)[p]? = some z1 := ⟨_, outsAt_at hpi⟩
            have hzb := outs_bounds (a := (a : Int)) (S := (S : Int)) (ws := ws) (by omega) (by omega) (by omega) (fun x hx => (HOK.out.1 x hx).1) (fun x hx => HOK.out.2.1 x hx) x p z1 hz1
            obtain ⟨zb0, zb1⟩ := hzb
            have k1 := HX.out.2 x p hLp
            have k2 := HX.out.1.cell1 lo hz1
            have f2 := HX.out.1.thaw1 lo p
            have HST := Lib.hid (HX.out.1.store1 lo p (z1 + 1) (outsAt_step hpi hrank hz1))
            have HC2 := Lib.hid (fun j z (h : L[j]? = some z) => cell_other (g2 := w.heap.size) (i := p) (x := .int .i64 (z1 + 1)) (HX.out.2 j z h) hgw)
            have pi : (p : Int) < (i : Int) := by omega
            clear hLp hrank lo hz1
            go_wp2
            go_roundw
            case rel => exact ⟨x + 1, by omega, by go_num, (show _ from ⟨HST.out, HC2.out⟩)⟩
            case measure => simp [intOf]; omega
          · obtain rfl : x = m := by omega
            have hD := HX.out.1
            rw [outsAt_left HTL.out.symm] at hD
            have hls : (shares (a : Int) (S : Int) ws).length = i := by unfold shares; simp [hout]
            have HDF := Lib.hid hD
            have HLS := Lib.hid hls
            have hLL := HL.out
            rw [HAN.out] at hLL
            by_cases hneg : c < 0
            · rw [if_pos hneg] at hLL
              have HLL := Lib.hid hLL
              have hneg2 := negateAll_is w wr w.heap.size i i (.slice (some ⟨w2.heap.size, 0, none⟩) i i) _ _ hD hls n64 (fun k z hz => by
                have hD' := outs_bounds (a := (a : Int)) (S := (S : Int)) (ws := ws) (by omega) (by omega) (by omega) (fun x hx => (HOK.out.1 x hx).1) (fun x hx => HOK.out.2.1 x hx) x k z (by rw [outsAt_left HTL.out.symm]; exact hz)
                omega)
              have HNG := Lib.hid hneg2
              clear hD hls hLL hneg2 hout
              go_wp2_with (go_at_call 36; refine HNG.out.mono ?_; rintro e w5 ⟨rfl, hD5⟩; have HD5 := Lib.hid hD5; clear hD5)
              go_ret2
              cases HLL.out
              exact ⟨⟨_, rfl, HD5.out.ints (by rw [List.length_map, HLS.out]; omega)⟩, HD5.out.below⟩
            · rw [if_neg hneg] at hLL
              have HLL := Lib.hid hLL
              clear hD hls hLL hout
              go_wp2
              go_ret2
              cases HLL.out
              exact ⟨⟨_, rfl, HDF.out.ints (by rw [HLS.out]; omega)⟩, HDF.out.below⟩
  · obtain ⟨rfl, ha⟩ := totalW_err htw hk
    have hk1 : (k2 != 0) = true := by simpa using hk
    have hk3 : (k2 == 0) = false := by simpa using hk
    rw [ha] at h
    cases h
    clear hv htw ha
    go_enter Try.func17, Try.ntmps17
    go_wp2_with (go_at_call 34; refine HTW.out.mono ?_; rintro e w' ⟨rfl, rfl⟩)
    go_ret2
    exact gives_nil _ _ (Below.refl _ _)
end Go.Proofs.Ytikcnekaefelcaa.money
