/- The law's own look at an error: none, and the program's own. -/
import Derived.Test.YtmpfdhnjhpbjgaaDoorAs
namespace Go.Proofs.YtmpfdhnjhpbjgaaDoor
open Go.RowKit Go.Extern.Stop Go.Stop Go.Extern
/-- The library's own variable lies where it was laid. -/
def TabE (w : World) : Prop := w.cell? ⟨1, 0, none⟩ = some (.iface 189 (.agg #[.pointer (some ⟨9, 34, none⟩)]))
theorem TabE.lt {w : World} (h : TabE w) : 1 < w.heap.size := block_lt_of_cell h
theorem TabE.below {w w' : World} {B : Nat} (h : TabE w) (hb : Below B w w') (hB : 1 < B) : TabE w' := by
  unfold TabE
  rw [hb.cell (p := ⟨1, 0, none⟩) hB]; exact h
theorem asW_below (w : World) (b : Nat) (n : Int) (hb : b ≤ w.heap.size) : Below b w (asW w ⟨b, 0, none⟩ n) := by
  unfold asW
  exact (((((Below.refl b w).alloc hb _).alloc (by simp; omega) _).alloc (by simp; omega) _).alloc (by simp; omega) _).setCell (Nat.le_refl _) _
theorem Tryd.at75 (n : Int) (w : World) : (Instr.typeAssert (.iface 30 (.int .i64 n)) 34 136 true).run Tryd.prog w = .ok (.tuple #[.pointer none, .bool false]) w := by kernel_rfl
theorem Tryd.un79 (n : Int) (w : World) : (Instr.typeAssert (.iface 30 (.int .i64 n)) 34 140 true).run Tryd.prog w = .ok (.tuple #[.nilIface, .bool false]) w := run_typeAssert_lacksB Tryd.underlying140 (by kernel_rfl) (by kernel_rfl) _ _ _
set_option maxRecDepth 100000 in
set_option maxHeartbeats 400000 in
theorem tell_nil (w : World) : Calls Tryd.prog 33 #[.nilIface] w fun e w' => e = .returned (.int .i64 0) ∧ w' = w := by
  go_enter Tryd.func33, Tryd.ntmps33
  go_wp2
  go_ret
  exact ⟨rfl, rfl⟩
set_option maxRecDepth 100000 in
set_option maxHeartbeats 400000 in
theorem tell_arg (n : Int) (w : World) (hE : TabE w) : Calls Tryd.prog 33 #[.iface 30 (.int .i64 n)] w fun e w' => e = .returned (.int .i64 n) ∧ Below w.heap.size w w' := by
  have hl := hE.lt
  have q := as_hit ⟨w.heap.size, 0, none⟩ n (.int .i64 0) (w.alloc (.cells #[.int .i64 0] 30)) (by rw [World.cell?_alloc_lt _ _ ⟨1, 0, none⟩ hl]; exact hE) (by simp) (by simp)
  have hb := asW_below (w.alloc (.cells #[.int .i64 0] 30)) w.heap.size n (by simp)
  have hc : (asW (w.alloc (.cells #[.int .i64 0] 30)) ⟨w.heap.size, 0, none⟩ n).cell? ⟨w.heap.size, 0, none⟩ = some (.int .i64 n) := by
    unfold asW
    refine World.cell?_setCell_same _ _ _ (u := .int .i64 0) ?_
    rw [World.cell?_alloc_lt _ _ ⟨w.heap.size, 0, none⟩ (by simp; omega), World.cell?_alloc_lt _ _ ⟨w.heap.size, 0, none⟩ (by simp; omega), World.cell?_alloc_lt _ _ ⟨w.heap.size, 0, none⟩ (by simp; omega), World.cell?_alloc_lt _ _ ⟨w.heap.size, 0, none⟩ (by simp)]
    simp
  generalize asW (w.alloc (.cells #[.int .i64 0] 30)) ⟨w.heap.size, 0, none⟩ n = W at q hb hc
  have Q := hide q
  clear q
  go_enter Tryd.func33, Tryd.ntmps33
  go_wp2_with (go_at_call 71; refine Q.out.mono ?_; rintro e w1 ⟨rfl, rfl⟩)
  go_ret
  exact ⟨rfl, ((Below.refl _ w).alloc (Nat.le_refl _) _).trans hb⟩
set_option maxRecDepth 100000 in
set_option maxHeartbeats 400000 in
theorem place_nil (w : World) : Calls Tryd.prog 68 #[.nilIface] w fun e w' => e = .returned (.tuple #[.int .i64 0, .int .i64 (-1)]) ∧ w' = w := by
  go_enter Tryd.func68, Tryd.ntmps68
  go_wp2_with (go_at_call 33; refine (tell_nil _).mono ?_; rintro e w1 ⟨rfl, rfl⟩)
  go_loopw [0] (fun i wr => i = .nilIface ∧ wr = w1) (fun _ _ => 0)
  case atStart => exact ⟨rfl, rfl⟩
  case round =>
    obtain ⟨rfl, hw⟩ := hrel
    subst hw
    go_wp2
    go_ret2
    exact ⟨rfl, rfl⟩
set_option maxRecDepth 100000 in
set_option maxHeartbeats 400000 in
theorem place_arg (n : Int) (w : World) (hE : TabE w) : Calls Tryd.prog 68 #[.iface 30 (.int .i64 n)] w fun e w' => e = .returned (.tuple #[.int .i64 n, .int .i64 (-1)]) ∧ Below w.heap.size w w' := by
  have Q := hide (tell_arg n w hE)
  have a1 := Tryd.at75 n
  have a2 := Tryd.un79 n
  go_enter Tryd.func68, Tryd.ntmps68
  go_wp2_with (go_at_call 33; refine Q.out.mono ?_; rintro e w1 ⟨rfl, hb1⟩)
  go_loopw [0] (fun i wr => i = .iface 30 (.int .i64 n) ∧ wr = w1) (fun _ _ => 0)
  case atStart => exact ⟨rfl, rfl⟩
  case round =>
    obtain ⟨rfl, hw⟩ := hrel
    subst hw
    go_wp2
    go_ret2
    exact ⟨rfl, hb1⟩
set_option maxRecDepth 100000 in
set_option maxHeartbeats 400000 in
theorem bare_nil (w : World) : Calls Tryd.prog 23 #[.nilIface, .int .i64 0] w fun e w' => e = .returned (.bool true) ∧ w' = w := by
  go_enter Tryd.func23, Tryd.ntmps23
  go_wp2_with (go_at_call 68; refine (place_nil _).mono ?_; rintro e w1 ⟨rfl, rfl⟩)
  go_ret
  exact ⟨rfl, rfl⟩
set_option maxRecDepth 100000 in
set_option maxHeartbeats 400000 in
theorem bare_arg (w : World) (hE : TabE w) : Calls Tryd.prog 23 #[.iface 30 (.int .i64 1), .int .i64 1] w fun e w' => e = .returned (.bool true) ∧ Below w.heap.size w w' := by
  have Q := hide (place_arg 1 w hE)
  go_enter Tryd.func23, Tryd.ntmps23
  go_wp2_with (go_at_call 68; refine Q.out.mono ?_; rintro e w1 ⟨rfl, hb⟩)
  go_ret
  exact ⟨rfl, hb⟩
end Go.Proofs.YtmpfdhnjhpbjgaaDoor
