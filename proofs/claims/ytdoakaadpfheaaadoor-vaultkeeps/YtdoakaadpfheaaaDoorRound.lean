/- One turn of the program's own mixing: what 'round' comes to, for every state and word. -/
import Derived.Test.YtdoakaadpfheaaaDoorTurns
import Derived.Test.YtdoakaadpfheaaaDoorSha
namespace Go.Proofs.YtdoakaadpfheaaaDoor
open Go.RowKit
attribute [local go_sem] N_xor N_and N_addm N_add3 N_add4 N_add12 N_add13 N_not

/-- Eight words as a value. -/
def St.v (s : St) : Value := .agg #[.int .u32 (N s.a), .int .u32 (N s.b), .int .u32 (N s.c), .int .u32 (N s.d), .int .u32 (N s.e), .int .u32 (N s.f), .int .u32 (N s.g), .int .u32 (N s.h)]

set_option maxRecDepth 100000 in
set_option maxHeartbeats 400000 in
theorem round_any (s : St) (m : BitVec 32) (w : World) :
    Calls Tryd.prog 90 #[s.v, .int .u32 (N m)] w fun e w' => e = .returned (step s m).v ∧ Below w.heap.size w w' := by
  obtain ⟨a, b, c, d, x, f, g, y⟩ := s
  unfold St.v
  go_enter Tryd.func90, Tryd.ntmps90
  go_wp2
  go_quiet (fail)
  go_wp2
  go_quiet (fail)
  go_wp2_with (go_at_call 116; refine (right_any _ _ _ (by decide)).mono ?_; rintro e w' ⟨rfl, rfl⟩)
  refine bodyPost_ret (v := (step ⟨a, b, c, d, x, f, g, y⟩ m).v) (by simp [results, Tryd.results90, go_sem, St.v, step, tA, tB]) rfl ⟨rfl, ?_⟩
  iterate 8 refine Below.setCell ?_ (by simp) _
  exact below_drewN (((Below.refl _ _).alloc (Nat.le_refl _) _).alloc (by simp) _) _
theorem v_row (s : St) : s.v = .agg #[.int .u32 (N s.a), .int .u32 (N s.b), .int .u32 (N s.c), .int .u32 (N s.d), .int .u32 (N s.e), .int .u32 (N s.f), .int .u32 (N s.g), .int .u32 (N s.h)] := rfl
end Go.Proofs.YtdoakaadpfheaaaDoor
