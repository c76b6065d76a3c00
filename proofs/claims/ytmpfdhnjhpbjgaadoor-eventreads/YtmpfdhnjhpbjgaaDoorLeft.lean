/- Turning a word to the left: the program's own way (the library's RotateLeft32) at the four counts that it is called with. -/
import Derived.Test.YtmpfdhnjhpbjgaaDoorRows
import Derived.Test.YtmpfdhnjhpbjgaaDoorChacha
import Derived.WalkKit
import Derived.WalkSpells
import Derived.WalkLawsBesides
import Derived.Deep.QuietTactic
import Derived.BigQuiet
namespace Go.Proofs.YtmpfdhnjhpbjgaaDoor
open Go.RowKit
set_option maxHeartbeats 400000 in
theorem left_16 (x : BitVec 32) (w : World) :
    Calls Tryd.prog 145 #[.int .u32 (N x), .int .i64 16] w fun e w' => e = .returned (.int .u32 (N (rl x 16))) ∧ w' = w := by
  have hb : bits .and .u64 16 31 = 16 := by decide +kernel
  have r0 : (N x * (65536 : Int) % (4294967296 : Int)) = N (x <<< 16) := N_shlm x 16
  have r1 : (N x / (65536 : Int)) = N (x >>> 16) := N_shr x 16
  have r2 := N_or
  go_enter Tryd.func145, Tryd.ntmps145
  go_wp2
  go_ret
  exact ⟨ret_val (by show Value.int .u32 (N (x <<< 16 ||| x >>> 16)) = _; rfl), rfl⟩
set_option maxHeartbeats 400000 in
theorem left_12 (x : BitVec 32) (w : World) :
    Calls Tryd.prog 145 #[.int .u32 (N x), .int .i64 12] w fun e w' => e = .returned (.int .u32 (N (rl x 12))) ∧ w' = w := by
  have hb : bits .and .u64 12 31 = 12 := by decide +kernel
  have r0 : (N x * (4096 : Int) % (4294967296 : Int)) = N (x <<< 12) := N_shlm x 12
  have r1 : (N x / (1048576 : Int)) = N (x >>> 20) := N_shr x 20
  have r2 := N_or
  go_enter Tryd.func145, Tryd.ntmps145
  go_wp2
  go_ret
  exact ⟨ret_val (by show Value.int .u32 (N (x <<< 12 ||| x >>> 20)) = _; rfl), rfl⟩
set_option maxHeartbeats 400000 in
theorem left_8 (x : BitVec 32) (w : World) :
    Calls Tryd.prog 145 #[.int .u32 (N x), .int .i64 8] w fun e w' => e = .returned (.int .u32 (N (rl x 8))) ∧ w' = w := by
  have hb : bits .and .u64 8 31 = 8 := by decide +kernel
  have r0 : (N x * (256 : Int) % (4294967296 : Int)) = N (x <<< 8) := N_shlm x 8
  have r1 : (N x / (16777216 : Int)) = N (x >>> 24) := N_shr x 24
  have r2 := N_or
  go_enter Tryd.func145, Tryd.ntmps145
  go_wp2
  go_ret
  exact ⟨ret_val (by show Value.int .u32 (N (x <<< 8 ||| x >>> 24)) = _; rfl), rfl⟩
set_option maxHeartbeats 400000 in
theorem left_7 (x : BitVec 32) (w : World) :
    Calls Tryd.prog 145 #[.int .u32 (N x), .int .i64 7] w fun e w' => e = .returned (.int .u32 (N (rl x 7))) ∧ w' = w := by
  have hb : bits .and .u64 7 31 = 7 := by decide +kernel
  have r0 : (N x * (128 : Int) % (4294967296 : Int)) = N (x <<< 7) := N_shlm x 7
  have r1 : (N x / (33554432 : Int)) = N (x >>> 25) := N_shr x 25
  have r2 := N_or
  go_enter Tryd.func145, Tryd.ntmps145
  go_wp2
  go_ret
  exact ⟨ret_val (by show Value.int .u32 (N (x <<< 7 ||| x >>> 25)) = _; rfl), rfl⟩
end Go.Proofs.YtmpfdhnjhpbjgaaDoor
