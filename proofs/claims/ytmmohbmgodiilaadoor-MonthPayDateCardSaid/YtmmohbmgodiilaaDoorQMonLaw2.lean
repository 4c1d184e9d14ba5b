/-
  The law MonthPayDate walked.
-/
import Derived.Test.YtmmohbmgodiilaaDoorQMonAwake
import Derived.Deep.RegionHeld3
namespace Go.Proofs.YtmmohbmgodiilaaDoor.mon
open Go Go.RowKit Go.Proofs.YtmmohbmgodiilaaDoor.money Go.Proofs.YtmmohbmgodiilaaDoor.ints
open Go.Proofs.YtmmohbmgodiilaaDoor.txt (str_mk)
set_option linter.unusedVariables false
set_option linter.unusedSimpArgs false

set_option maxRecDepth 4000 in
set_option maxHeartbeats 8000000 in
theorem walk_MonthPayDate (m wk : Int) (hv : Value) (hs : List Int) (day : Int) (w : World) (hi : Ints w hv hs) (he : Env w) : Calls Tryd.prog 4 #[.int .i64 m, .agg #[.int .i64 wk, hv], .int .i64 day] w (GivesB w true) := by
  obtain ⟨A, cp, rfl⟩ := hi.form0
  obtain ⟨n, hn⟩ : ∃ n, hs.length = n := ⟨_, rfl⟩
  have hm := hi.1
  rw [hn] at hi hm ⊢
  have HI := Lib.hid hi
  have BB := Lib.hid (al (Below.refl w.heap.size w) (.cells #[.int .i64 wk, .slice A n cp] 33))
  have k0 : (w.alloc (.cells #[.int .i64 wk, .slice A n cp] 33)).cell? ⟨w.heap.size, 0, none⟩ = some (.int .i64 wk) := by simp [go_sem]
  have k1 : (w.alloc (.cells #[.int .i64 wk, .slice A n cp] 33)).cell? ⟨w.heap.size, 1, none⟩ = some (.slice A n cp) := by simp [go_sem]
  obtain ⟨⟨x, c⟩, h3⟩ : ∃ r, payR m wk hs day = r := ⟨_, rfl⟩
  have H3 := Lib.hid h3
  clear h3
  by_cases hl : (100 : Int) < n
  · have hl2 : 100 < n := by omega
    clear hi hn
    go_enter Tryd.func4, Tryd.ntmps4
    go_wp2_with (first
      | (go_at_call 16; (with_reducible refine (awake_is _ ?_).mono ?_); (exact he.below BB.out); rintro e wn ⟨rfl, hbn⟩; have BB := Lib.hid (tr BB.out hbn); clear hbn)
      | fail)
    go_ret
    exact ⟨rfl, BB.out⟩
  have hl2 : ¬ 100 < n := by omega
  clear hi hn
  go_enter Tryd.func4, Tryd.ntmps4
  go_wp2_with (first
      | (go_at_call 17; (with_reducible refine (MPay_is m wk _ hs day x c _ ?_ ?_ H3.out).mono ?_); (exact he.below BB.out); (exact HI.out.below BB.out); rintro e w1 ⟨rfl, hbn⟩; replace k0 := held hbn k0; replace k1 := held hbn k1; have BB := Lib.hid (tr BB.out hbn); clear hbn)
      | (go_at_call 18; (with_reducible refine (rPay_is m wk _ hs day x c _ ?_ H3.out).mono ?_); (exact HI.out.below BB.out); rintro e w2 ⟨rfl, hbn⟩; replace k0 := held hbn k0; replace k1 := held hbn k1; have BB := Lib.hid (tr BB.out hbn); clear hbn)
      | (go_at_call 16; (with_reducible refine (awake_is _ ?_).mono ?_); (exact he.below BB.out); rintro e wn ⟨rfl, hbn⟩; have BB := Lib.hid (tr BB.out hbn); clear hbn)
      | fail)
  go_ret
  exact ⟨rfl, BB.out⟩
end Go.Proofs.YtmmohbmgodiilaaDoor.mon
