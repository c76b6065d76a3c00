/- What turning a word comes to: the program's own 'right' and the document's 'rot', at the ten counts that they are called with. -/
import Derived.Test.YtdoakaadpfheaaaDoorBase
import Derived.Test.YtdoakaadpfheaaaDoorRows
import Derived.Test.YtdoakaadpfheaaaDoorWords
import Derived.WalkKit
import Derived.WalkSpells
import Derived.WalkLawsBesides
import Derived.Deep.QuietTactic
import Derived.BigQuiet
namespace Go.Proofs.YtdoakaadpfheaaaDoor
open Go.RowKit
set_option maxHeartbeats 400000 in
theorem right_2 (x : BitVec 32) (w : World) :
    Calls Tryd.prog 116 #[.int .u32 (N x), .int .i64 2] w fun e w' => e = .returned (.int .u32 (N (rr x 2))) ∧ w' = w := by
  have hb : bits .and .u64 (IntKind.u64.wrap (-2)) 31 = 30 := by decide +kernel
  have r0 : (N x * (1073741824 : Int) % (4294967296 : Int)) = N (x <<< 30) := N_shlm x 30
  have r1 : (N x / (4 : Int)) = N (x >>> 2) := N_shr x 2
  have r2 := N_or
  go_enter Tryd.func116, Tryd.ntmps116
  go_wp2
  go_ret
  exact ⟨ret_val (by show Value.int .u32 (N (x <<< 30 ||| x >>> 2)) = _; rfl), rfl⟩
set_option maxHeartbeats 400000 in
theorem rot_2 (x : BitVec 32) (w : World) :
    Calls Tryd.prog 50 #[.int .u32 (N x), .int .i64 2] w fun e w' => e = .returned (.int .u32 (N (rr x 2))) ∧ ∃ n, w' = w.drewN n := by
  have r0 : (N x * (1073741824 : Int) % (4294967296 : Int)) = N (x <<< 30) := N_shlm x 30
  have r1 : (N x / (4 : Int)) = N (x >>> 2) := N_shr x 2
  have r2 := N_addm (x >>> 2) (x <<< 30)
  go_enter Tryd.func50, Tryd.ntmps50
  go_wp2
  go_quiet (fail)
  go_wp2
  go_ret
  exact ⟨ret_val (by show Value.int .u32 ((N (x >>> 2) + N (x <<< 30)) % (4294967296 : Int)) = _; rw [r2, rr_add x 2 (by omega)]), _, rfl⟩

set_option maxHeartbeats 400000 in
theorem right_6 (x : BitVec 32) (w : World) :
    Calls Tryd.prog 116 #[.int .u32 (N x), .int .i64 6] w fun e w' => e = .returned (.int .u32 (N (rr x 6))) ∧ w' = w := by
  have hb : bits .and .u64 (IntKind.u64.wrap (-6)) 31 = 26 := by decide +kernel
  have r0 : (N x * (67108864 : Int) % (4294967296 : Int)) = N (x <<< 26) := N_shlm x 26
  have r1 : (N x / (64 : Int)) = N (x >>> 6) := N_shr x 6
  have r2 := N_or
  go_enter Tryd.func116, Tryd.ntmps116
  go_wp2
  go_ret
  exact ⟨ret_val (by show Value.int .u32 (N (x <<< 26 ||| x >>> 6)) = _; rfl), rfl⟩
set_option maxHeartbeats 400000 in
theorem rot_6 (x : BitVec 32) (w : World) :
    Calls Tryd.prog 50 #[.int .u32 (N x), .int .i64 6] w fun e w' => e = .returned (.int .u32 (N (rr x 6))) ∧ ∃ n, w' = w.drewN n := by
  have r0 : (N x * (67108864 : Int) % (4294967296 : Int)) = N (x <<< 26) := N_shlm x 26
  have r1 : (N x / (64 : Int)) = N (x >>> 6) := N_shr x 6
  have r2 := N_addm (x >>> 6) (x <<< 26)
  go_enter Tryd.func50, Tryd.ntmps50
  go_wp2
  go_quiet (fail)
  go_wp2
  go_ret
  exact ⟨ret_val (by show Value.int .u32 ((N (x >>> 6) + N (x <<< 26)) % (4294967296 : Int)) = _; rw [r2, rr_add x 6 (by omega)]), _, rfl⟩

set_option maxHeartbeats 400000 in
theorem right_7 (x : BitVec 32) (w : World) :
    Calls Tryd.prog 116 #[.int .u32 (N x), .int .i64 7] w fun e w' => e = .returned (.int .u32 (N (rr x 7))) ∧ w' = w := by
  have hb : bits .and .u64 (IntKind.u64.wrap (-7)) 31 = 25 := by decide +kernel
  have r0 : (N x * (33554432 : Int) % (4294967296 : Int)) = N (x <<< 25) := N_shlm x 25
  have r1 : (N x / (128 : Int)) = N (x >>> 7) := N_shr x 7
  have r2 := N_or
  go_enter Tryd.func116, Tryd.ntmps116
  go_wp2
  go_ret
  exact ⟨ret_val (by show Value.int .u32 (N (x <<< 25 ||| x >>> 7)) = _; rfl), rfl⟩
set_option maxHeartbeats 400000 in
theorem rot_7 (x : BitVec 32) (w : World) :
    Calls Tryd.prog 50 #[.int .u32 (N x), .int .i64 7] w fun e w' => e = .returned (.int .u32 (N (rr x 7))) ∧ ∃ n, w' = w.drewN n := by
  have r0 : (N x * (33554432 : Int) % (4294967296 : Int)) = N (x <<< 25) := N_shlm x 25
  have r1 : (N x / (128 : Int)) = N (x >>> 7) := N_shr x 7
  have r2 := N_addm (x >>> 7) (x <<< 25)
  go_enter Tryd.func50, Tryd.ntmps50
  go_wp2
  go_quiet (fail)
  go_wp2
  go_ret
  exact ⟨ret_val (by show Value.int .u32 ((N (x >>> 7) + N (x <<< 25)) % (4294967296 : Int)) = _; rw [r2, rr_add x 7 (by omega)]), _, rfl⟩

set_option maxHeartbeats 400000 in
theorem right_11 (x : BitVec 32) (w : World) :
    Calls Tryd.prog 116 #[.int .u32 (N x), .int .i64 11] w fun e w' => e = .returned (.int .u32 (N (rr x 11))) ∧ w' = w := by
  have hb : bits .and .u64 (IntKind.u64.wrap (-11)) 31 = 21 := by decide +kernel
  have r0 : (N x * (2097152 : Int) % (4294967296 : Int)) = N (x <<< 21) := N_shlm x 21
  have r1 : (N x / (2048 : Int)) = N (x >>> 11) := N_shr x 11
  have r2 := N_or
  go_enter Tryd.func116, Tryd.ntmps116
  go_wp2
  go_ret
  exact ⟨ret_val (by show Value.int .u32 (N (x <<< 21 ||| x >>> 11)) = _; rfl), rfl⟩
set_option maxHeartbeats 400000 in
theorem rot_11 (x : BitVec 32) (w : World) :
    Calls Tryd.prog 50 #[.int .u32 (N x), .int .i64 11] w fun e w' => e = .returned (.int .u32 (N (rr x 11))) ∧ ∃ n, w' = w.drewN n := by
  have r0 : (N x * (2097152 : Int) % (4294967296 : Int)) = N (x <<< 21) := N_shlm x 21
  have r1 : (N x / (2048 : Int)) = N (x >>> 11) := N_shr x 11
  have r2 := N_addm (x >>> 11) (x <<< 21)
  go_enter Tryd.func50, Tryd.ntmps50
  go_wp2
  go_quiet (fail)
  go_wp2
  go_ret
  exact ⟨ret_val (by show Value.int .u32 ((N (x >>> 11) + N (x <<< 21)) % (4294967296 : Int)) = _; rw [r2, rr_add x 11 (by omega)]), _, rfl⟩

set_option maxHeartbeats 400000 in
theorem right_13 (x : BitVec 32) (w : World) :
    Calls Tryd.prog 116 #[.int .u32 (N x), .int .i64 13] w fun e w' => e = .returned (.int .u32 (N (rr x 13))) ∧ w' = w := by
  have hb : bits .and .u64 (IntKind.u64.wrap (-13)) 31 = 19 := by decide +kernel
  have r0 : (N x * (524288 : Int) % (4294967296 : Int)) = N (x <<< 19) := N_shlm x 19
  have r1 : (N x / (8192 : Int)) = N (x >>> 13) := N_shr x 13
  have r2 := N_or
  go_enter Tryd.func116, Tryd.ntmps116
  go_wp2
  go_ret
  exact ⟨ret_val (by show Value.int .u32 (N (x <<< 19 ||| x >>> 13)) = _; rfl), rfl⟩
set_option maxHeartbeats 400000 in
theorem rot_13 (x : BitVec 32) (w : World) :
    Calls Tryd.prog 50 #[.int .u32 (N x), .int .i64 13] w fun e w' => e = .returned (.int .u32 (N (rr x 13))) ∧ ∃ n, w' = w.drewN n := by
  have r0 : (N x * (524288 : Int) % (4294967296 : Int)) = N (x <<< 19) := N_shlm x 19
  have r1 : (N x / (8192 : Int)) = N (x >>> 13) := N_shr x 13
  have r2 := N_addm (x >>> 13) (x <<< 19)
  go_enter Tryd.func50, Tryd.ntmps50
  go_wp2
  go_quiet (fail)
  go_wp2
  go_ret
  exact ⟨ret_val (by show Value.int .u32 ((N (x >>> 13) + N (x <<< 19)) % (4294967296 : Int)) = _; rw [r2, rr_add x 13 (by omega)]), _, rfl⟩

set_option maxHeartbeats 400000 in
theorem right_17 (x : BitVec 32) (w : World) :
    Calls Tryd.prog 116 #[.int .u32 (N x), .int .i64 17] w fun e w' => e = .returned (.int .u32 (N (rr x 17))) ∧ w' = w := by
  have hb : bits .and .u64 (IntKind.u64.wrap (-17)) 31 = 15 := by decide +kernel
  have r0 : (N x * (32768 : Int) % (4294967296 : Int)) = N (x <<< 15) := N_shlm x 15
  have r1 : (N x / (131072 : Int)) = N (x >>> 17) := N_shr x 17
  have r2 := N_or
  go_enter Tryd.func116, Tryd.ntmps116
  go_wp2
  go_ret
  exact ⟨ret_val (by show Value.int .u32 (N (x <<< 15 ||| x >>> 17)) = _; rfl), rfl⟩
set_option maxHeartbeats 400000 in
theorem rot_17 (x : BitVec 32) (w : World) :
    Calls Tryd.prog 50 #[.int .u32 (N x), .int .i64 17] w fun e w' => e = .returned (.int .u32 (N (rr x 17))) ∧ ∃ n, w' = w.drewN n := by
  have r0 : (N x * (32768 : Int) % (4294967296 : Int)) = N (x <<< 15) := N_shlm x 15
  have r1 : (N x / (131072 : Int)) = N (x >>> 17) := N_shr x 17
  have r2 := N_addm (x >>> 17) (x <<< 15)
  go_enter Tryd.func50, Tryd.ntmps50
  go_wp2
  go_quiet (fail)
  go_wp2
  go_ret
  exact ⟨ret_val (by show Value.int .u32 ((N (x >>> 17) + N (x <<< 15)) % (4294967296 : Int)) = _; rw [r2, rr_add x 17 (by omega)]), _, rfl⟩

set_option maxHeartbeats 400000 in
theorem right_18 (x : BitVec 32) (w : World) :
    Calls Tryd.prog 116 #[.int .u32 (N x), .int .i64 18] w fun e w' => e = .returned (.int .u32 (N (rr x 18))) ∧ w' = w := by
  have hb : bits .and .u64 (IntKind.u64.wrap (-18)) 31 = 14 := by decide +kernel
  have r0 : (N x * (16384 : Int) % (4294967296 : Int)) = N (x <<< 14) := N_shlm x 14
  have r1 : (N x / (262144 : Int)) = N (x >>> 18) := N_shr x 18
  have r2 := N_or
  go_enter Tryd.func116, Tryd.ntmps116
  go_wp2
  go_ret
  exact ⟨ret_val (by show Value.int .u32 (N (x <<< 14 ||| x >>> 18)) = _; rfl), rfl⟩
set_option maxHeartbeats 400000 in
theorem rot_18 (x : BitVec 32) (w : World) :
    Calls Tryd.prog 50 #[.int .u32 (N x), .int .i64 18] w fun e w' => e = .returned (.int .u32 (N (rr x 18))) ∧ ∃ n, w' = w.drewN n := by
  have r0 : (N x * (16384 : Int) % (4294967296 : Int)) = N (x <<< 14) := N_shlm x 14
  have r1 : (N x / (262144 : Int)) = N (x >>> 18) := N_shr x 18
  have r2 := N_addm (x >>> 18) (x <<< 14)
  go_enter Tryd.func50, Tryd.ntmps50
  go_wp2
  go_quiet (fail)
  go_wp2
  go_ret
  exact ⟨ret_val (by show Value.int .u32 ((N (x >>> 18) + N (x <<< 14)) % (4294967296 : Int)) = _; rw [r2, rr_add x 18 (by omega)]), _, rfl⟩

set_option maxHeartbeats 400000 in
theorem right_19 (x : BitVec 32) (w : World) :
    Calls Tryd.prog 116 #[.int .u32 (N x), .int .i64 19] w fun e w' => e = .returned (.int .u32 (N (rr x 19))) ∧ w' = w := by
  have hb : bits .and .u64 (IntKind.u64.wrap (-19)) 31 = 13 := by decide +kernel
  have r0 : (N x * (8192 : Int) % (4294967296 : Int)) = N (x <<< 13) := N_shlm x 13
  have r1 : (N x / (524288 : Int)) = N (x >>> 19) := N_shr x 19
  have r2 := N_or
  go_enter Tryd.func116, Tryd.ntmps116
  go_wp2
  go_ret
  exact ⟨ret_val (by show Value.int .u32 (N (x <<< 13 ||| x >>> 19)) = _; rfl), rfl⟩
set_option maxHeartbeats 400000 in
theorem rot_19 (x : BitVec 32) (w : World) :
    Calls Tryd.prog 50 #[.int .u32 (N x), .int .i64 19] w fun e w' => e = .returned (.int .u32 (N (rr x 19))) ∧ ∃ n, w' = w.drewN n := by
  have r0 : (N x * (8192 : Int) % (4294967296 : Int)) = N (x <<< 13) := N_shlm x 13
  have r1 : (N x / (524288 : Int)) = N (x >>> 19) := N_shr x 19
  have r2 := N_addm (x >>> 19) (x <<< 13)
  go_enter Tryd.func50, Tryd.ntmps50
  go_wp2
  go_quiet (fail)
  go_wp2
  go_ret
  exact ⟨ret_val (by show Value.int .u32 ((N (x >>> 19) + N (x <<< 13)) % (4294967296 : Int)) = _; rw [r2, rr_add x 19 (by omega)]), _, rfl⟩

set_option maxHeartbeats 400000 in
theorem right_22 (x : BitVec 32) (w : World) :
    Calls Tryd.prog 116 #[.int .u32 (N x), .int .i64 22] w fun e w' => e = .returned (.int .u32 (N (rr x 22))) ∧ w' = w := by
  have hb : bits .and .u64 (IntKind.u64.wrap (-22)) 31 = 10 := by decide +kernel
  have r0 : (N x * (1024 : Int) % (4294967296 : Int)) = N (x <<< 10) := N_shlm x 10
  have r1 : (N x / (4194304 : Int)) = N (x >>> 22) := N_shr x 22
  have r2 := N_or
  go_enter Tryd.func116, Tryd.ntmps116
  go_wp2
  go_ret
  exact ⟨ret_val (by show Value.int .u32 (N (x <<< 10 ||| x >>> 22)) = _; rfl), rfl⟩
set_option maxHeartbeats 400000 in
theorem rot_22 (x : BitVec 32) (w : World) :
    Calls Tryd.prog 50 #[.int .u32 (N x), .int .i64 22] w fun e w' => e = .returned (.int .u32 (N (rr x 22))) ∧ ∃ n, w' = w.drewN n := by
  have r0 : (N x * (1024 : Int) % (4294967296 : Int)) = N (x <<< 10) := N_shlm x 10
  have r1 : (N x / (4194304 : Int)) = N (x >>> 22) := N_shr x 22
  have r2 := N_addm (x >>> 22) (x <<< 10)
  go_enter Tryd.func50, Tryd.ntmps50
  go_wp2
  go_quiet (fail)
  go_wp2
  go_ret
  exact ⟨ret_val (by show Value.int .u32 ((N (x >>> 22) + N (x <<< 10)) % (4294967296 : Int)) = _; rw [r2, rr_add x 22 (by omega)]), _, rfl⟩

set_option maxHeartbeats 400000 in
theorem right_25 (x : BitVec 32) (w : World) :
    Calls Tryd.prog 116 #[.int .u32 (N x), .int .i64 25] w fun e w' => e = .returned (.int .u32 (N (rr x 25))) ∧ w' = w := by
  have hb : bits .and .u64 (IntKind.u64.wrap (-25)) 31 = 7 := by decide +kernel
  have r0 : (N x * (128 : Int) % (4294967296 : Int)) = N (x <<< 7) := N_shlm x 7
  have r1 : (N x / (33554432 : Int)) = N (x >>> 25) := N_shr x 25
  have r2 := N_or
  go_enter Tryd.func116, Tryd.ntmps116
  go_wp2
  go_ret
  exact ⟨ret_val (by show Value.int .u32 (N (x <<< 7 ||| x >>> 25)) = _; rfl), rfl⟩
set_option maxHeartbeats 400000 in
theorem rot_25 (x : BitVec 32) (w : World) :
    Calls Tryd.prog 50 #[.int .u32 (N x), .int .i64 25] w fun e w' => e = .returned (.int .u32 (N (rr x 25))) ∧ ∃ n, w' = w.drewN n := by
  have r0 : (N x * (128 : Int) % (4294967296 : Int)) = N (x <<< 7) := N_shlm x 7
  have r1 : (N x / (33554432 : Int)) = N (x >>> 25) := N_shr x 25
  have r2 := N_addm (x >>> 25) (x <<< 7)
  go_enter Tryd.func50, Tryd.ntmps50
  go_wp2
  go_quiet (fail)
  go_wp2
  go_ret
  exact ⟨ret_val (by show Value.int .u32 ((N (x >>> 25) + N (x <<< 7)) % (4294967296 : Int)) = _; rw [r2, rr_add x 25 (by omega)]), _, rfl⟩

def turns (k : Int) : Bool := [2, 6, 7, 11, 13, 17, 18, 19, 22, 25].contains k
theorem turns_cases {k : Int} (h : turns k = true) : k = 2 ∨ k = 6 ∨ k = 7 ∨ k = 11 ∨ k = 13 ∨ k = 17 ∨ k = 18 ∨ k = 19 ∨ k = 22 ∨ k = 25 := by
  simpa [turns] using h
theorem right_any (x : BitVec 32) (k : Int) (w : World) (h : turns k = true) :
    Calls Tryd.prog 116 #[.int .u32 (N x), .int .i64 k] w fun e w' => e = .returned (.int .u32 (N (rr x k.toNat))) ∧ w' = w := by
  rcases turns_cases h with rfl | rfl | rfl | rfl | rfl | rfl | rfl | rfl | rfl | rfl
  · exact right_2 x w
  · exact right_6 x w
  · exact right_7 x w
  · exact right_11 x w
  · exact right_13 x w
  · exact right_17 x w
  · exact right_18 x w
  · exact right_19 x w
  · exact right_22 x w
  · exact right_25 x w
theorem rot_any (x : BitVec 32) (k : Int) (w : World) (h : turns k = true) :
    Calls Tryd.prog 50 #[.int .u32 (N x), .int .i64 k] w fun e w' => e = .returned (.int .u32 (N (rr x k.toNat))) ∧ ∃ n, w' = w.drewN n := by
  rcases turns_cases h with rfl | rfl | rfl | rfl | rfl | rfl | rfl | rfl | rfl | rfl
  · exact rot_2 x w
  · exact rot_6 x w
  · exact rot_7 x w
  · exact rot_11 x w
  · exact rot_13 x w
  · exact rot_17 x w
  · exact rot_18 x w
  · exact rot_19 x w
  · exact rot_22 x w
  · exact rot_25 x w
end Go.Proofs.YtdoakaadpfheaaaDoor
