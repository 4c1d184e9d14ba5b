/-
  What the reference of chapter 7 answers: Format and Parse. The walks.
-/
import Derived.Test.YtmmohbmgodiilaaDoorQMonRef
import Derived.Test.YtmmohbmgodiilaaDoorPa
import Derived.Test.YtmmohbmgodiilaaDoorQRefFmt
import Derived.Test.YtmmohbmgodiilaaDoorQCalDigits
namespace Go.Proofs.YtmmohbmgodiilaaDoor.mon
open Go Go.RowKit Go.Proofs.YtmmohbmgodiilaaDoor.money
open Go.Proofs.YtmmohbmgodiilaaDoor.num (padTo digs val itoa_pos)
open Go.Proofs.YtmmohbmgodiilaaDoor.txt (str_mk str_size ext_list ret_str rFormatInt_is pad_step pad_done)
open Go.Proofs.YtmmohbmgodiilaaDoor.cal (dec_len2 dec_len4 digR rDigits_is at_byte)
set_option linter.unusedVariables false
set_option linter.unusedSimpArgs false

def GivesS (w : World) (t : ByteArray) (e : Ending) (w' : World) : Prop := e = .returned (.string t) ∧ Below w.heap.size w w'

theorem pad_full {k : Nat} {l : List UInt8} (h : l.length = k) : padTo k l = l := pad_done (by omega)
theorem dec4 {u : Nat} (h0 : 1000 ≤ u) (h1 : u < 10000) : (Lib.decDigits u).length = 4 := by
  rw [Lib.decDigits_length, Lib.nDigits_big (by omega), Lib.nDigits_big (by omega), Lib.nDigits_big (by omega), Lib.nDigits_small (by omega)]
theorem dec2 {u : Nat} (h1 : u < 100) : (Lib.decDigits u).length = if u < 10 then 1 else 2 := by
  rw [Lib.decDigits_length]
  split
  · rw [Lib.nDigits_small (by omega)]
  · rw [Lib.nDigits_big (by omega), Lib.nDigits_small (by omega)]

set_option maxRecDepth 4000 in
set_option maxHeartbeats 2000000 in
theorem rTm_is (m : Int) (t : ByteArray) (w : World) (ht : t.data.toList = textM m) : Calls Tryd.prog 22 #[.int .i64 m] w (GivesS w t) := by
  cases hv : okM m
  · have he : (⟨#[]⟩ : ByteArray) = t := ext_list (by rw [ht]; unfold textM; rw [hv]; rfl)
    have HE := Lib.hid he
    have HV := Lib.hid hv
    clear he ht hv
    go_enter Tryd.func22, Tryd.ntmps22
    go_wp2_with (go_at_call 25; refine (rOk_is m false _ HV.out).mono ?_; rintro e w' ⟨rfl, rfl⟩)
    go_ret
    exact ⟨ret_str HE.out, Below.refl _ _⟩
  · obtain ⟨m0, m1⟩ := (okM_iff m).1 hv
    obtain ⟨Q, hQ⟩ : ∃ Q, m / 12 = Q := ⟨_, rfl⟩
    obtain ⟨R, hR⟩ : ∃ R, m % 12 = R := ⟨_, rfl⟩
    have Q0 : 0 ≤ Q := by omega
    have Q1 : Q ≤ 300 := by omega
    have R0 : 0 ≤ R := by omega
    have R1 : R ≤ 11 := by omega
    obtain ⟨Y, hY⟩ : ∃ Y, 1900 + Q = Y := ⟨_, rfl⟩
    obtain ⟨Z, hZ⟩ : ∃ Z, R + 1 = Z := ⟨_, rfl⟩
    have Y0 : 1900 ≤ Y := by omega
    have Y1 : Y ≤ 2200 := by omega
    have Z0 : 1 ≤ Z := by omega
    have Z1 : Z ≤ 12 := by omega
    have f1 : m.tdiv 12 = Q := by rw [tdiv_of m0]; exact hQ
    have f2 : m.tmod 12 = R := by rw [tmod_of m0]; exact hR
    have f3 : wrap64 Q = Q := IntWalk.wrap64_in Q ⟨by omega, by omega⟩
    have f4 : IntKind.i64.wrap Q = Q := i64_in (by omega) (by omega)
    obtain ⟨u, hu⟩ := str_mk (Lib.itoa Y)
    obtain ⟨v, hvv⟩ := str_mk (Lib.itoa Z)
    have eu : u.data.toList = padTo 4 (Lib.decDigits (1900 + (m / 12).toNat)) := by
      rw [hu, itoa_pos (by omega), show Y.natAbs = 1900 + (m / 12).toNat by omega, pad_full (dec4 (by omega) (by omega))]
    have ev : v.data.toList = Lib.decDigits ((m % 12).toNat + 1) := by
      rw [hvv, itoa_pos (by omega), show Z.natAbs = (m % 12).toNat + 1 by omega]
    have su : u.size = 4 := by rw [str_size hu, itoa_pos (by omega), dec4 (by omega) (by omega)]
    have sv : v.size = if Z < 10 then 1 else 2 := by
      rw [str_size ev, dec2 (by omega)]
      by_cases g : Z < 10
      · rw [if_pos g, if_pos (by omega)]
      · rw [if_neg g, if_neg (by omega)]
    unfold textM at ht
    rw [hv, if_pos rfl, ← eu] at ht
    have su1 : u.size ≤ 4 := by omega
    have HV := Lib.hid hv
    have HU := Lib.hid (And.intro hu hvv)
    by_cases g : Z < 10
    · rw [if_pos g] at sv
      have he : u ++ ⟨#[45]⟩ ++ (⟨#[48]⟩ ++ v) = t := ext_list (by
        rw [ht, ← pad_step (by rw [← ev, ← Lib.size_eq, sv]; decide), pad_full (by rw [← ev, List.length_cons, ← Lib.size_eq, sv]), ← ev]; simp)
      have HE := Lib.hid he
      have sv1 : (v.size : Int) < 2 := by omega
      have sv2 : v.size ≤ 2 := by omega
      clear hv hQ hR hu hvv eu ev su sv ht he
      go_enter Tryd.func22, Tryd.ntmps22
      go_wp2_with (first
        | (go_at_call 25; refine (rOk_is m true _ HV.out).mono ?_; rintro e w' ⟨rfl, rfl⟩)
        | (go_at_call 39; (with_reducible refine (rFormatInt_is Z v _ (by omega) (by omega) HU.out.2).mono ?_); rintro e w1 ⟨rfl, hb1⟩)
        | (go_at_call 39; (with_reducible refine (rFormatInt_is Y u _ (by omega) (by omega) HU.out.1).mono ?_); rintro e w2 ⟨rfl, hb2⟩)
        | fail)
      go_ret
      exact ⟨ret_str HE.out, tr hb1 hb2⟩
    · rw [if_neg g] at sv
      have he : u ++ ⟨#[45]⟩ ++ v = t := ext_list (by
        rw [ht, pad_full (by rw [← ev, ← Lib.size_eq, sv]), ← ev]; simp)
      have HE := Lib.hid he
      have sv1 : ¬ (v.size : Int) < 2 := by omega
      have sv2 : v.size ≤ 2 := by omega
      clear hv hQ hR hu hvv eu ev su sv ht he
      go_enter Tryd.func22, Tryd.ntmps22
      go_wp2_with (first
        | (go_at_call 25; refine (rOk_is m true _ HV.out).mono ?_; rintro e w' ⟨rfl, rfl⟩)
        | (go_at_call 39; (with_reducible refine (rFormatInt_is Z v _ (by omega) (by omega) HU.out.2).mono ?_); rintro e w1 ⟨rfl, hb1⟩)
        | (go_at_call 39; (with_reducible refine (rFormatInt_is Y u _ (by omega) (by omega) HU.out.1).mono ?_); rintro e w2 ⟨rfl, hb2⟩)
        | fail)
      go_ret
      exact ⟨ret_str HE.out, tr hb1 hb2⟩
end Go.Proofs.YtmmohbmgodiilaaDoor.mon
