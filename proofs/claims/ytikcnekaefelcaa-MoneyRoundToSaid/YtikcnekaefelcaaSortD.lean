/-
  What the library's SortStableFunc makes of a row of at most 64 elements whose places hold their own keys: the walks.
-/
import Derived.Test.YtikcnekaefelcaaSortC
import Derived.Test.YtikcnekaefelcaaStableRuns
namespace Go.Proofs.Ytikcnekaefelcaa.sorted
open Go Go.RowKit Go.Sort Go.Proofs.Ytikcnekaefelcaa.stable
set_option linter.unusedVariables false
variable {α : Type} [Inhabited α]

theorem insertion_is {enc : α → Value} {w : World} {blk off size g : Nat} {cb : Array Value} {cf : α → α → Int} (B : Bed enc w blk off size g cb cf) (d : Array α) (hs : d.size = size) (cap a b k : Nat) (hab : a ≤ b) (hb : b ≤ size) :
    Calls Try.prog 47 #[.slice (some ⟨blk, off, none⟩) size cap, .int .i64 a, .int .i64 b, .func (.func g) #[] cb] ((putRow enc w blk off d).drewN k) (Leaves enc w blk off (fun d' => d' = insertionSort (ltOf cf) d a b)) := by
  have hH : Holds enc ((putRow enc w blk off d).drewN k) blk off d := B.holds hs
  have h := Any.insertionSortCmpFunc_one (P := Try.prog) (ρ := Try.lays20_ren) Try.lays20 enc B.one cf g cb blk off cap a b d ((putRow enc w blk off d).drewN k) B.enters (by rw [hs]; exact B.later hs k) hH hab (by omega) (by have := B.big; omega)
  rw [hs] at h
  refine Calls.mono h ?_
  rintro e w' ⟨rfl, n, rfl⟩
  exact ⟨rfl, _, k + n, rfl, putRow_again enc w blk off k n d _ (ins_size _ d a b)⟩

set_option maxHeartbeats 8000000 in
set_option maxRecDepth 100000 in
theorem stable_is {enc : α → Value} {w : World} {blk off size g : Nat} {cb : Array Value} {cf : α → α → Int} {lt : α → α → Bool} {key : α → Nat} (B : Bed enc w blk off size g cb cf) (T : Tot lt key (ltOf cf)) (d : Array α) (hs : d.size = size) (cap k : Nat) (h64 : size ≤ 64) (hk : ∀ t, t < size → key d[t]! = t) :
    Calls Try.prog 46 #[.slice (some ⟨blk, off, none⟩) size cap, .int .i64 size, .func (.func g) #[] cb] ((putRow enc w blk off d).drewN k) (Leaves enc w blk off (fun d' => d'.size = size ∧ Run lt key 0 size d')) := by
  have HB := Lib.hid B
  have HT := Lib.hid T
  have HS := Lib.hid hs
  have HK := Lib.hid hk
  clear B T hs hk
  go_enter Try.func46, Try.ntmps46
  go_wp2
  go_loopg [7, 8] size (fun g1 va vb wr => ∃ (q a b kk : Nat) (D : Array α), va = .int .i64 a ∧ vb = .int .i64 b ∧ a ≤ size ∧ size - a ≤ g1 ∧ b = a + 20 ∧ wr = (putRow enc w blk off D).drewN kk ∧ Hid (D.size = size ∧ Heads lt key 20 size a q D))
  case atStart => exact ⟨0, 0, 20, k, d, rfl, rfl, Nat.zero_le _, by omega, rfl, rfl, (show _ from ⟨HS.out, ⟨rfl, fun p hp => by omega, fun t _ h => HK.out t h⟩⟩)⟩
  case round =>
    obtain ⟨q, a, b, kk, D, rfl, rfl, ha, hg1, hb, rfl, HD⟩ := hrel
    have HBB := Lib.hid hb
    clear hb
    by_cases hbn : b ≤ size
    · have HC := Lib.hid (insertion_is HB.out D HD.out.1 cap a b kk (by have := HBB.out; omega) hbn)
      have wb := addn (x := b) (y := 20) (z := b + 20) rfl (by omega)
      go_wp2_with (go_at_call 47; refine HC.out.mono ?_; rintro e w' ⟨rfl, D', k2, rfl, rfl⟩)
      obtain ⟨hDs, hHd⟩ := HD.out
      have hb := HBB.out
      go_roundg (size - b)
      case measure => omega
      case rel =>
        refine ⟨q + 1, b, b + 20, k2, _, rfl, by go_num, hbn, Nat.le_refl _, rfl, rfl, (show _ from ?_)⟩
        exact ⟨by rw [ins_size]; exact hDs, heads_step HT.out hHd hb.symm hbn (by omega)⟩
    · have HC := Lib.hid (insertion_is HB.out D HD.out.1 cap a size kk ha (Nat.le_refl _))
      go_wp2_with (go_at_call 47; refine HC.out.mono ?_; rintro e w' ⟨rfl, D', k2, rfl, rfl⟩)
      have HR : Hid ((insertionSort (ltOf cf) D a size).size = size ∧ Runs lt key 20 size (insertionSort (ltOf cf) D a size)) := by
        exact ⟨by rw [ins_size]; exact HD.out.1, heads_end HT.out HD.out.2 ha (by have := HBB.out; omega) (by rw [HD.out.1]; exact Nat.le_refl _)⟩
      generalize insertionSort (ltOf cf) D a size = D' at HR ⊢
      clear HD HC hg1 hbn
      go_loopg [6] 100 (fun g2 vs wr => ∃ (s k3 : Nat) (E : Array α), vs = .int .i64 s ∧ 100 - s ≤ g2 ∧ wr = (putRow enc w blk off E).drewN k3 ∧ Hid ((s = 20 ∨ s = 40 ∨ s = 80) ∧ E.size = size ∧ Runs lt key s size E))
      case atStart => exact ⟨20, k2, D', rfl, by omega, rfl, (show _ from ⟨.inl rfl, HR.out⟩)⟩
      case round =>
        obtain ⟨s, k3, E, rfl, hg2, rfl, HE⟩ := hrel
        by_cases hsn : s < size
        · have hsz : (s : Int) < (size : Int) := by omega
          have hs4 : s = 20 ∨ s = 40 := by have := HE.out.1; omega
          obtain ⟨s2, hs2⟩ : ∃ x, 2 * s = x := ⟨_, rfl⟩
          have hs1 : 0 < s := by omega
          have m1 : IntKind.i64.wrap (2 * (s : Int)) = (s2 : Int) := by rw [show 2 * (s : Int) = (s2 : Int) by omega]; exact i64n (by omega)
          have m2 : IntKind.i64.wrap ((s : Int) * 2) = (s2 : Int) := by rw [show (s : Int) * 2 = (s2 : Int) by omega]; exact i64n (by omega)
          have m3 : 2 * (s : Int) = (s2 : Int) := by omega
          have m4 : (s : Int) * 2 = (s2 : Int) := by omega
          have HSV := Lib.hid (And.intro hs4 hs2)
          clear hs4 hs2
          go_wp2
          go_loopg [7, 8] size (fun g3 va vb wr => ∃ (q a b k4 : Nat) (F : Array α), va = .int .i64 a ∧ vb = .int .i64 b ∧ a ≤ size ∧ size - a ≤ g3 ∧ Hid (a + s2 = b) ∧ wr = (putRow enc w blk off F).drewN k4 ∧ Hid (F.size = size ∧ Half lt key s s2 size a q F))
          case atStart => exact ⟨0, 0, s2, k3, E, rfl, rfl, Nat.zero_le _, by omega, (show 0 + s2 = s2 from Nat.zero_add _), rfl, (show _ from ⟨HE.out.2.1, half_start HE.out.2.2⟩)⟩
          case round =>
            obtain ⟨q, a, b, k4, F, rfl, rfl, ha, hg3, HAB, rfl, HF⟩ := hrel
            have hsv := HSV.out
            have hab := HAB.out
            have hs2 : s2 = 2 * s := by omega
            have wm := addn (x := a) (y := s) (z := a + s) rfl (by omega)
            have wb := addn (x := b) (y := s2) (z := b + s2) rfl (by omega)
            have HN := Lib.hid hs2
            obtain ⟨m, hm⟩ : ∃ x, a + s = x := ⟨_, rfl⟩
            obtain ⟨b2, hb2⟩ : ∃ x, b + s2 = x := ⟨_, rfl⟩
            rw [hm] at wm
            rw [hb2] at wb
            by_cases hbn : b ≤ size
            · have r1 := half_fst hs2 HF.out.2 (by omega)
              have r2 := half_snd hs2 HF.out.2 (by omega)
              rw [Nat.min_eq_left (by omega), hm] at r1
              rw [Nat.min_eq_left (by omega), hm, hab] at r2
              have HC := Lib.hid (symMerge_all HB.out HT.out cap (b - a) a m b F k4 (Nat.le_refl _) (by omega) (by omega) hbn HF.out.1 r1.1 r2.1 (r1.keys r2))
              have HM := Lib.hid (And.intro hm hb2)
              clear hsv hab hs2 hm hb2 r1 r2
              go_wp2_with (go_at_call 48; refine HC.out.mono ?_; rintro e w' ⟨rfl, F', k5, hF', rfl⟩)
              have hab := HAB.out
              go_roundg (size - b)
              case measure => omega
              case rel => exact ⟨q + 1, b, b2, k5, F', rfl, rfl, hbn, Nat.le_refl _, (show _ from by have := HM.out; have := HN.out; show b + s2 = b2; omega), rfl, (show _ from ⟨by rw [hF'.1.1]; exact HF.out.1, half_step HN.out hs1 HF.out.2 hab hbn (by rw [HF.out.1]; exact Nat.le_refl _) hF'.1 hF'.2⟩)⟩
            · by_cases hmn : m < size
              · have hmz : (m : Int) < (size : Int) := by omega
                have r1 := half_fst hs2 HF.out.2 (by omega)
                have r2 := half_snd hs2 HF.out.2 (by omega)
                rw [Nat.min_eq_left (by omega), hm] at r1
                rw [Nat.min_eq_right (by omega), hm] at r2
                have HC := Lib.hid (symMerge_all HB.out HT.out cap (size - a) a m size F k4 (Nat.le_refl _) (by omega) (by omega) (Nat.le_refl _) HF.out.1 r1.1 r2.1 (r1.keys r2))
                have HM := Lib.hid (And.intro hm (And.intro hb2 hmn))
                clear hsv hab hs2 hm hb2 r1 r2
                go_wp2_with (go_at_call 48; refine HC.out.mono ?_; rintro e w' ⟨rfl, F', k5, hF', rfl⟩)
                have hab := HAB.out
                have hmm := HM.out
                have hnn := HN.out
                have hsv := HSV.out
                go_roundg (100 - s2)
                case measure => omega
                case rel => exact ⟨s2, k5, F', rfl, Nat.le_refl _, rfl, (show _ from ⟨by omega, by rw [hF'.1.1]; exact HF.out.1, half_end hnn hs1 HF.out.2 ha (by omega) (by rw [HF.out.1]; exact Nat.le_refl _) (.inl ⟨by omega, hF'.1, hF'.2⟩)⟩)⟩
              · have hmz : ¬ (m : Int) < (size : Int) := by omega
                have HM := Lib.hid (And.intro hm (And.intro hb2 hmn))
                clear hsv hab hs2 hm hb2
                go_wp2
                have hab := HAB.out
                have hmm := HM.out
                have hnn := HN.out
                have hsv := HSV.out
                go_roundg (100 - s2)
                case measure => omega
                case rel => exact ⟨s2, k4, F, rfl, Nat.le_refl _, rfl, (show _ from ⟨by omega, HF.out.1, half_end hnn hs1 HF.out.2 ha (by omega) (by rw [HF.out.1]; exact Nat.le_refl _) (.inr ⟨by omega, rfl⟩)⟩)⟩
        · have hsz : ¬ (s : Int) < (size : Int) := by omega
          go_wp2
          go_end0
          exact ⟨rfl, E, k3, ⟨HE.out.2.1, runs_all HE.out.2.2 (by omega)⟩, rfl⟩

set_option maxHeartbeats 1000000 in
theorem sortStable_is {enc : α → Value} {w : World} {blk off size g : Nat} {cb : Array Value} {cf : α → α → Int} {lt : α → α → Bool} {key : α → Nat} (B : Bed enc w blk off size g cb cf) (T : Tot lt key (ltOf cf)) (d : Array α) (hs : d.size = size) (cap k : Nat) (h64 : size ≤ 64) (hk : ∀ t, t < size → key d[t]! = t) :
    Calls Try.prog 43 #[.slice (some ⟨blk, off, none⟩) size cap, .func (.func g) #[] cb] ((putRow enc w blk off d).drewN k) (Leaves enc w blk off (fun d' => d'.size = size ∧ Run lt key 0 size d')) := by
  have HC := Lib.hid (stable_is B T d hs cap k h64 hk)
  clear B T hs hk
  go_enter Try.func43, Try.ntmps43
  go_wp2_with (go_at_call 46; refine HC.out.mono ?_; rintro e w' ⟨rfl, D', k2, hD', rfl⟩)
  go_end0
  exact ⟨rfl, D', k2, hD', rfl⟩
end Go.Proofs.Ytikcnekaefelcaa.sorted
