/- SortStableFunc; rows that are none. -/
import Derived.Test.YtclchlcfcnlmhaaFs
import Derived.Test.YtclchlcfcnlmhaaFt
import Derived.Test.YtclchlcfcnlmhaaFu
namespace Go.Proofs.Ytclchlcfcnlmhaa
open Go.RowKit Go.Maps Go.Shelf
set_option linter.unusedSimpArgs false
set_option linter.unusedVariables false
set_option maxRecDepth 100000 in
set_option maxHeartbeats 4000000 in
theorem sorts_any (base : Nat) (w0 : World) (g L cap : Nat) (T : List MK) (w : World) (h : InP base w0 w g L cap T) (hL : L ≤ 100000) :
    Calls Try.prog 45 #[.slice (some ⟨g, 0, none⟩) L cap, ordV] w fun e w' => e = .returned (.tuple #[]) ∧ ∃ T', InP base w0 w' g L cap T' ∧ St T T' ∧ Srt T' := by
  have HC := Lib.hid (stable_any base w0 g L cap T w h hL)
  clear h
  unfold ordV
  go_enter Try.func45, Try.ntmps45
  go_wp2_with fail
  refine HC.out.mono ?_
  rintro e w1 ⟨rfl, h1⟩
  have H1 := Lib.hid h1
  clear h1 HC
  go_wp2
  exact bodyPost_end (results_none rfl _ _ _) rfl ⟨rfl, H1.out⟩
theorem rev_none (w : World) : Calls Try.prog 44 #[.slice none 0 0] w fun e w' => e = .returned (.tuple #[]) ∧ w' = w := by
  go_enter Try.func44, Try.ntmps44
  go_wp2
  go_loopw [2, 3] (fun iv jv wr => iv = .int .i64 0 ∧ jv = .int .i64 (-1) ∧ wr = w) (fun iv jv _ => 0)
  case atStart => exact ⟨rfl, rfl, rfl⟩
  case round =>
    obtain ⟨rfl, rfl, rfl⟩ := hrel
    go_wp2
    exact bodyPost_end (results_none rfl _ _ _) rfl ⟨rfl, rfl⟩
theorem compact_none (w : World) : Calls Try.prog 48 #[.slice none 0 0, likeV] w fun e w' => e = .returned (.slice none 0 0) ∧ w' = w := by
  unfold likeV
  go_enter Try.func48, Try.ntmps48
  go_wp2
  go_ret
  exact ⟨rfl, rfl⟩
end Go.Proofs.Ytclchlcfcnlmhaa
