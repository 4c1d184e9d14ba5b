/-
  What the reference's Format of chapter 4 answers: the walks.
-/
import Derived.Test.YtjjnlihokcddbaaDoorCalTo
import Derived.Test.YtjjnlihokcddbaaDoorCalText
import Derived.Test.YtjjnlihokcddbaaDoorRefFmt
namespace Go.Proofs.YtjjnlihokcddbaaDoor.cal
open Go Go.RowKit Go.Proofs.YtjjnlihokcddbaaDoor.num Go.Proofs.YtjjnlihokcddbaaDoor.txt Go.Proofs.YtjjnlihokcddbaaDoor.money
set_option linter.unusedVariables false

def GivesStr (w : World) (t : ByteArray) (e : Ending) (w' : World) : Prop := e = .returned (.string t) ∧ Below w.heap.size w w'

set_option maxHeartbeats 1000000 in
theorem rPad_is (u k : Nat) (kz : Int) (hkz : kz = k) (t : ByteArray) (w : World) (hu : u ≤ 1000000) (hk : k ≤ 10) (ht : t.data.toList = padTo k (Lib.decDigits u)) :
    Calls Tryd.prog 37 #[.int .i64 u, .int .i64 kz] w (GivesStr w t) := by
  subst hkz
  obtain ⟨d, hd⟩ := str_mk (Lib.decDigits u)
  have hds : d.size ≤ 20 := by
    rw [str_size hd, Lib.decDigits_length]; exact Lib.nDigits_le20 _ (by omega)
  have hi : d.data.toList = Lib.itoa (u : Int) := by rw [itoa_pos (by omega)]; exact hd
  have HD := Lib.hid (And.intro hd hi)
  have HT := Lib.hid ht
  clear hd hi ht
  go_enter Tryd.func37, Tryd.ntmps37
  go_wp2_with (go_at_call 41; refine (rFormatInt_is (u : Int) d _ (by omega) (by omega) HD.out.2).mono ?_; rintro e w1 ⟨rfl, hb1⟩)
  go_loop [5] (fun vs => ∃ s : ByteArray, vs = .string s ∧ s.size ≤ 20 ∧ Hid (padTo k s.data.toList = padTo k (Lib.decDigits u))) (fun vs => 100 - (match vs with | .string s => s.size | _ => 0))
  case atStart => exact ⟨d, rfl, hds, (show _ = _ by rw [HD.out.1])⟩
  case round =>
    obtain ⟨s, rfl, hs, HS⟩ := hrel
    by_cases hlt : s.size < k
    · have hlti : (s.size : Int) < (k : Int) := by omega
      obtain ⟨s2, hs2⟩ : ∃ x : ByteArray, ({ data := #[48] } : ByteArray) ++ s = x := ⟨_, rfl⟩
      have hl2 : s2.data.toList = 48 :: s.data.toList := by rw [← hs2]; simp
      have hz2 : s2.size = s.size + 1 := by rw [str_size hl2, Lib.size_eq s]; rfl
      have HS2 : Hid (padTo k s2.data.toList = padTo k (Lib.decDigits u)) := by
        show _ = _
        rw [hl2, pad_step (by rw [← Lib.size_eq]; exact hlt)]; exact HS.out
      have HZ := Lib.hid (And.intro hs2 hz2)
      clear hl2 hz2 hs2
      go_wp2
      go_round
      case rel => exact ⟨s2, by first | rfl | (rw [HZ.out.1]), by rw [HZ.out.2]; omega, HS2⟩
      case measure =>
        have h2 := HZ.out.2
        rw [← HZ.out.1] at h2
        show 100 - ByteArray.size _ < 100 - ByteArray.size _
        omega
    · have hlti : ¬ (s.size : Int) < (k : Int) := by omega
      go_wp2
      go_ret
      exact ⟨ret_str (ext_list (by
        have := HS.out
        rw [pad_done (by rw [← Lib.size_eq]; omega)] at this
        rw [HT.out, this])), hb1⟩

set_option maxHeartbeats 1000000 in
theorem rFormat_is (n : Int) (t : ByteArray) (w : World) (ht : t.data.toList = textR n) : Calls Tryd.prog 26 #[.int .i64 n] w (GivesStr w t) := by
  cases hv : okD n
  · have he : (⟨#[]⟩ : ByteArray) = t := ext_list (by rw [ht]; unfold textR; rw [hv]; rfl)
    have HE := Lib.hid he
    have HV := Lib.hid hv
    clear he ht hv
    go_enter Tryd.func26, Tryd.ntmps26
    go_wp2_with (go_at_call 33; refine (rValid_is n false _ HV.out).mono ?_; rintro e w' ⟨rfl, rfl⟩)
    go_ret
    exact ⟨ret_str HE.out, Below.refl _ _⟩
  · have I := Is.of n hv
    obtain ⟨x, hx⟩ := str_mk (padTo 4 (Lib.decDigits (1900 + kOf n)))
    obtain ⟨y, hy⟩ := str_mk (padTo 2 (Lib.decDigits (jOf n + 1)))
    obtain ⟨z, hz⟩ := str_mk (padTo 2 (Lib.decDigits (dOf n).toNat))
    have k1 := I.k1
    have j1 := I.j1
    have d0 := I.d0
    have d1 := I.d1
    have db := dim_bd (1900 + (kOf n : Int)) ((jOf n : Int) + 1)
    have sx : x.size = 4 := by rw [str_size hx]; exact dec_len4 (by omega)
    have sy : y.size = 2 := by rw [str_size hy]; exact dec_len2 (by omega)
    have sz : z.size = 2 := by rw [str_size hz]; exact dec_len2 (by omega)
    have he : x ++ ⟨#[45]⟩ ++ y ++ ⟨#[45]⟩ ++ z = t := ext_list (by rw [ht]; unfold textR; rw [hv, if_pos rfl, ← hx, ← hy, ← hz]; simp)
    obtain ⟨K, hK⟩ : ∃ K, 1900 + kOf n = K := ⟨_, rfl⟩
    obtain ⟨J, hJ⟩ : ∃ J, jOf n + 1 = J := ⟨_, rfl⟩
    obtain ⟨D, hD⟩ : ∃ D, (dOf n).toNat = D := ⟨_, rfl⟩
    have hto : toR n = ((K : Int), (J : Int), (D : Int)) := by
      rw [I.to, ← hK, ← hJ, ← hD]
      simp only [Prod.mk.injEq]
      omega
    rw [hK] at hx
    rw [hJ] at hy
    rw [hD] at hz
    have HV := Lib.hid hv
    have HT := Lib.hid hto
    have HX := Lib.hid (And.intro hx (And.intro hy (And.intro hz he)))
    have HB := Lib.hid (show K ≤ 1000000 ∧ J ≤ 1000000 ∧ D ≤ 1000000 by omega)
    have sx1 : x.size ≤ 4 := by omega
    have sy1 : y.size ≤ 2 := by omega
    have sz1 : z.size ≤ 2 := by omega
    clear hv hto hx hy hz he hK hJ hD sx sy sz I ht k1 j1 d0 d1 db
    go_enter Tryd.func26, Tryd.ntmps26
    go_wp2_with (first
      | (go_at_call 33; refine (rValid_is n true _ HV.out).mono ?_; rintro e w' ⟨rfl, rfl⟩)
      | (go_at_call 11; refine (rToYMD_is n K J D _ HT.out).mono ?_; rintro e w' ⟨rfl, rfl⟩)
      | (go_at_call 37; (with_reducible refine (rPad_is K 4 4 rfl x _ HB.out.1 (by omega) HX.out.1).mono ?_); rintro e w1 ⟨rfl, hb1⟩)
      | (go_at_call 37; (with_reducible refine (rPad_is J 2 2 rfl y _ HB.out.2.1 (by omega) HX.out.2.1).mono ?_); rintro e w2 ⟨rfl, hb2⟩)
      | (go_at_call 37; (with_reducible refine (rPad_is D 2 2 rfl z _ HB.out.2.2 (by omega) HX.out.2.2.1).mono ?_); rintro e w3 ⟨rfl, hb3⟩)
      | fail)
    go_ret
    exact ⟨ret_str HX.out.2.2.2, tr (tr hb1 hb2) hb3⟩
end Go.Proofs.YtjjnlihokcddbaaDoor.cal
