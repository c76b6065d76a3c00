/- The document's own test of bounds. -/
import Derived.Test.YtmpfdhnjhpbjgaaDoorBase
import Derived.WalkKit
import Derived.WalkSpells
import Derived.WalkLawsBesides
namespace Go.Proofs.YtmpfdhnjhpbjgaaDoor
open Go.RowKit
set_option maxRecDepth 100000 in
theorem in_any (n l h : Int) (w : World) :
    Calls Tryd.prog 63 #[.int .i64 n, .int .i64 l, .int .i64 h] w fun e w' => e = .returned (.bool (decide (l ≤ n) && decide (n ≤ h))) ∧ w' = w := by
  by_cases h1 : l ≤ n
  · have d1 : decide (l ≤ n) = true := by simp; omega
    by_cases h2 : n ≤ h
    · have d2 : decide (n ≤ h) = true := by simp; omega
      go_enter Tryd.func63, Tryd.ntmps63
      go_wp2
      go_ret
      exact ⟨ret_val (by simp [h1, h2]), rfl⟩
    · have d2 : decide (n ≤ h) = false := by simp; omega
      go_enter Tryd.func63, Tryd.ntmps63
      go_wp2
      go_ret
      exact ⟨ret_val rfl, rfl⟩
  · have d1 : decide (l ≤ n) = false := by simp; omega
    go_enter Tryd.func63, Tryd.ntmps63
    go_wp2
    go_ret
    exact ⟨ret_val rfl, rfl⟩
end Go.Proofs.YtmpfdhnjhpbjgaaDoor
