/-
  What the reference's FormatInt of chapter 1 answers: the walk.
-/
import Derived.Test.YtmmohbmgodiilaaDoorQRefDigits
namespace Go.Proofs.YtmmohbmgodiilaaDoor.txt
open Go Go.RowKit Go.Proofs.YtmmohbmgodiilaaDoor.num Go.Proofs.YtmmohbmgodiilaaDoor.money
set_option linter.unusedVariables false

theorem rFormatInt_is (n : Int) (t : ByteArray) (w : World) (h0 : -9223372036854775808 ≤ n) (h1 : n ≤ 9223372036854775807) (ht : t.data.toList = Lib.itoa n) :
    Calls Tryd.prog 39 #[.int .i64 n] w fun e w' => e = .returned (.string t) ∧ Below w.heap.size w w' := by
  obtain ⟨d, hd⟩ := str_mk (Lib.decDigits n.natAbs)
  have hds : d.size ≤ 20 := by
    rw [str_size hd, Lib.decDigits_length]; exact Lib.nDigits_le20 _ (by omega)
  have HD := Lib.hid hd
  by_cases hn : n < 0
  · rw [itoa_neg hn] at ht
    have he : ({ data := #[45] } : ByteArray) ++ d = t := ext_list (by rw [ht, ← hd]; simp)
    have HE := Lib.hid he
    clear ht hd he
    go_enter Tryd.func39, Tryd.ntmps39
    go_wp2_with (go_at_call 55; refine (digits_is _ n.natAbs d _ (by omega) (by omega) HD.out).mono ?_; rintro e w1 ⟨rfl, hb1⟩)
    go_ret
    exact ⟨congrArg (fun q => Ending.returned (.string q)) HE.out, hb1⟩
  · rw [itoa_pos hn] at ht
    have he : d = t := ext_list (by rw [ht, ← hd])
    subst he
    clear ht hd
    go_enter Tryd.func39, Tryd.ntmps39
    go_wp2_with (go_at_call 55; refine (digits_is _ n.natAbs d _ (by omega) (by omega) HD.out).mono ?_; rintro e w1 ⟨rfl, hb1⟩)
    go_ret
    exact ⟨rfl, hb1⟩
end Go.Proofs.YtmmohbmgodiilaaDoor.txt
