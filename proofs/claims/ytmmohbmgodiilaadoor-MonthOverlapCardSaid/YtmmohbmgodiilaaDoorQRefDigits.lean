/-
  What the reference's digits of chapter 1 answers: the walk.
-/
import Derived.Test.YtmmohbmgodiilaaDoorQTextBase
import Derived.Laws.IdiomStrings
import Derived.Deep.RegionWith
import Derived.RegionTactic
namespace Go.Proofs.YtmmohbmgodiilaaDoor.txt
open Go Go.RowKit Go.Proofs.YtmmohbmgodiilaaDoor.num Go.Proofs.YtmmohbmgodiilaaDoor.money
set_option linter.unusedVariables false

theorem conv_digit (z : Int) (b : UInt8) (hz : z = (b.toNat : Int)) (W : World) (A : Nat) (h : W.cell? ⟨A, 0, none⟩ = some (.int .u8 z)) :
    (convert 64 9 (.slice (some ⟨A, 0, none⟩) 1 1)).run Tryd.prog W = .ok (.string ⟨#[b]⟩) W := by
  refine run_convert_bytes_back W 64 9 5 ⟨A, 0, none⟩ 1 [b] Tryd.underlying64 Tryd.underlying5 Tryd.underlying9 ?_
  intro j hj
  obtain rfl : j = 0 := by simpa using hj
  rw [List.getElem_cons_zero, ← hz, ← h]
  simp [Addr.add]
theorem digits_one (n : Nat) (w : World) (hn : n < 10) :
    Calls Tryd.prog 55 #[.int .u64 n] w fun e w' => e = .returned (.string ⟨(Lib.decDigits n).toArray⟩) ∧ Below w.heap.size w w' := by
  have hni : (n : Int) < 10 := by omega
  obtain ⟨b, hb⟩ : ∃ b : UInt8, UInt8.ofNat (48 + n) = b := ⟨_, rfl⟩
  have hbn : b.toNat = 48 + n := by rw [← hb, u8_ofNat n hn]
  have h := dec_small hn
  rw [hb] at h
  have H := Lib.hid h
  have hcv := conv_digit (48 + (n : Int)) b (by omega)
  clear hn hb hbn h
  go_enter Tryd.func55, Tryd.ntmps55
  go_wp2
  go_ret
  refine ⟨?_, (Below.refl _ _).alloc (Nat.le_refl _) _⟩
  rw [H.out]; rfl
set_option maxHeartbeats 400000 in
theorem digits_big (n : Nat) (w : World) (hn : ¬ n < 10) (hn2 : n ≤ 9223372036854775808)
    (ih : ∀ (w : World), Calls Tryd.prog 55 #[.int .u64 ((n / 10 : Nat) : Int)] w fun e w' => e = .returned (.string ⟨(Lib.decDigits (n / 10)).toArray⟩) ∧ Below w.heap.size w w') :
    Calls Tryd.prog 55 #[.int .u64 n] w fun e w' => e = .returned (.string ⟨(Lib.decDigits n).toArray⟩) ∧ Below w.heap.size w w' := by
  have hni : ¬ (n : Int) < 10 := by omega
  obtain ⟨b, hb⟩ : ∃ b : UInt8, UInt8.ofNat (48 + n % 10) = b := ⟨_, rfl⟩
  have hbn : b.toNat = 48 + n % 10 := by rw [← hb, u8_ofNat _ (by omega)]
  have h := dec_big hn
  rw [hb] at h
  have H := Lib.hid h
  obtain ⟨z, hz⟩ : ∃ z : Int, ((n / 10 : Nat) : Int) = z := ⟨_, rfl⟩
  obtain ⟨y, hy⟩ : ∃ y : Int, ((n % 10 : Nat) : Int) = y := ⟨_, rfl⟩
  obtain ⟨x, hx⟩ : ∃ x : Int, 48 + y = x := ⟨_, rfl⟩
  have hq : IntKind.u64.wrap ((n : Int) / 10) = z := by rw [u64_in (by omega) (by omega)]; omega
  have hr : ((n : Int)).tmod 10 = y := by rw [Int.tmod_eq_emod_of_nonneg (by omega)]; omega
  have hs : IntKind.u64.wrap (48 + y) = x := by rw [u64_in (by omega) (by omega)]; omega
  have hs2 : IntKind.u8.wrap x = x := u8_in (by omega) (by omega)
  have hcv := conv_digit x b (by omega)
  obtain ⟨t, ht⟩ : ∃ t : ByteArray, (⟨(Lib.decDigits (n / 10)).toArray⟩ : ByteArray) = t := ⟨_, rfl⟩
  rw [ht, hz] at ih
  have hts : t.size ≤ 20 := by
    rw [← ht, Lib.size_eq]; simp only
    rw [Lib.decDigits_length]; exact Lib.nDigits_le20 _ (by omega)
  have HT := Lib.hid ht
  have HI := Lib.hid ih
  clear hn ih hb hbn h ht hz hy hx hn2
  go_enter Tryd.func55, Tryd.ntmps55
  go_wp2_with fail
  go_region_with (go_at_call 55; refine (HI.out _).mono ?_; rintro e w1 ⟨rfl, hb1⟩; have hc1 := bcell hb1)
  all_goals go_wp2
  all_goals go_ret
  all_goals refine ⟨?_, ?_⟩
  all_goals try (rw [H.out]; exact congrArg (fun q => Ending.returned (.string q)) (ext_list (by rw [← HT.out]; simp)))
  · exact al (tr (Below.refl _ w).drew hb1) _
  · exact tr (al (Below.refl _ w) _).drew hb1
  · exact tr (al (Below.refl _ w) _).drew hb1
theorem digits_any (n : Nat) (hn : n ≤ 9223372036854775808) : ∀ (w : World),
    Calls Tryd.prog 55 #[.int .u64 n] w fun e w' => e = .returned (.string ⟨(Lib.decDigits n).toArray⟩) ∧ Below w.heap.size w w' := by
  induction n using Nat.strongRecOn with
  | _ n ih =>
    intro w
    by_cases h : n < 10
    · exact digits_one n w h
    · exact digits_big n w h hn (ih (n / 10) (by omega) (by omega))
theorem digits_is (z : Int) (u : Nat) (t : ByteArray) (w : World) (hz : z = (u : Int)) (hu : u ≤ 9223372036854775808) (ht : t.data.toList = Lib.decDigits u) :
    Calls Tryd.prog 55 #[.int .u64 z] w fun e w' => e = .returned (.string t) ∧ Below w.heap.size w w' := by
  subst hz
  have := digits_any u hu w
  rw [str_eq ht] at this; exact this

end Go.Proofs.YtmmohbmgodiilaaDoor.txt
