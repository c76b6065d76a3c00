/- Texts of this proof, one behind the other. -/
import Derived.Test.YtedcbjefkhgiiabGreatDoorPart29
/- The law's own look at an error: none, and the program's own. -/
namespace Go.Proofs.YtedcbjefkhgiiabGreatDoor
open Go.RowKit Go.Extern.Stop Go.Stop Go.Extern
/-- The library's own variable lies where it was laid. -/
def TabE (w : World) : Prop := w.cell? ⟨1, 0, none⟩ = some (.iface 186 (.agg #[.pointer (some ⟨6, 36, none⟩)]))
theorem TabE.lt {w : World} (h : TabE w) : 1 < w.heap.size := block_lt_of_cell h
theorem TabE.below {w w' : World} {B : Nat} (h : TabE w) (hb : Below B w w') (hB : 1 < B) : TabE w' := by
  unfold TabE
  rw [hb.cell (p := ⟨1, 0, none⟩) hB]; exact h
theorem asW_below (w : World) (b : Nat) (n : Int) (hb : b ≤ w.heap.size) : Below b w (asW w ⟨b, 0, none⟩ n) := by
  unfold asW
  exact (((((Below.refl b w).alloc hb _).alloc (by simp; omega) _).alloc (by simp; omega) _).alloc (by simp; omega) _).setCell (Nat.le_refl _) _
theorem Tryz.at75 (n : Int) (w : World) : (Instr.typeAssert (.iface 38 (.int .i64 n)) 36 131 true).run Tryz.prog w = .ok (.tuple #[.pointer none, .bool false]) w := by kernel_rfl
theorem Tryz.un79 (n : Int) (w : World) : (Instr.typeAssert (.iface 38 (.int .i64 n)) 36 135 true).run Tryz.prog w = .ok (.tuple #[.nilIface, .bool false]) w := run_typeAssert_lacksB Tryz.underlying135 (by kernel_rfl) (by kernel_rfl) _ _ _
set_option maxRecDepth 100000 in
set_option maxHeartbeats 400000 in
theorem tell_nil (w : World) : Calls Tryz.prog 27 #[.nilIface] w fun e w' => e = .returned (.int .i64 0) ∧ w' = w := by
  go_enter Tryz.func27, Tryz.ntmps27
  go_wp2
  go_ret
  exact ⟨rfl, rfl⟩
set_option maxRecDepth 100000 in
set_option maxHeartbeats 400000 in
theorem tell_arg (n : Int) (w : World) (hE : TabE w) : Calls Tryz.prog 27 #[.iface 38 (.int .i64 n)] w fun e w' => e = .returned (.int .i64 n) ∧ Below w.heap.size w w' := by
  have hl := hE.lt
  have q := as_hit ⟨w.heap.size, 0, none⟩ n (.int .i64 0) (w.alloc (.cells #[.int .i64 0] 38)) (by rw [World.cell?_alloc_lt _ _ ⟨1, 0, none⟩ hl]; exact hE) (by simp) (by simp)
  have hb := asW_below (w.alloc (.cells #[.int .i64 0] 38)) w.heap.size n (by simp)
  have hc : (asW (w.alloc (.cells #[.int .i64 0] 38)) ⟨w.heap.size, 0, none⟩ n).cell? ⟨w.heap.size, 0, none⟩ = some (.int .i64 n) := by
    unfold asW
    refine World.cell?_setCell_same _ _ _ (u := .int .i64 0) ?_
    rw [World.cell?_alloc_lt _ _ ⟨w.heap.size, 0, none⟩ (by simp; omega), World.cell?_alloc_lt _ _ ⟨w.heap.size, 0, none⟩ (by simp; omega), World.cell?_alloc_lt _ _ ⟨w.heap.size, 0, none⟩ (by simp; omega), World.cell?_alloc_lt _ _ ⟨w.heap.size, 0, none⟩ (by simp)]
    simp
  generalize asW (w.alloc (.cells #[.int .i64 0] 38)) ⟨w.heap.size, 0, none⟩ n = W at q hb hc
  have Q := hide q
  clear q
  go_enter Tryz.func27, Tryz.ntmps27
  go_wp2_with (go_at_call 72; refine Q.out.mono ?_; rintro e w1 ⟨rfl, rfl⟩)
  go_ret
  exact ⟨rfl, ((Below.refl _ w).alloc (Nat.le_refl _) _).trans hb⟩
set_option maxRecDepth 100000 in
set_option maxHeartbeats 400000 in
theorem place_nil (w : World) : Calls Tryz.prog 48 #[.nilIface] w fun e w' => e = .returned (.tuple #[.int .i64 0, .int .i64 (-1)]) ∧ w' = w := by
  go_enter Tryz.func48, Tryz.ntmps48
  go_wp2_with (go_at_call 27; refine (tell_nil _).mono ?_; rintro e w1 ⟨rfl, rfl⟩)
  go_loopw [0] (fun i wr => i = .nilIface ∧ wr = w1) (fun _ _ => 0)
  case atStart => exact ⟨rfl, rfl⟩
  case round =>
    obtain ⟨rfl, hw⟩ := hrel
    subst hw
    go_wp2
    go_ret2
    exact ⟨rfl, rfl⟩
set_option maxRecDepth 100000 in
set_option maxHeartbeats 400000 in
theorem place_arg (n : Int) (w : World) (hE : TabE w) : Calls Tryz.prog 48 #[.iface 38 (.int .i64 n)] w fun e w' => e = .returned (.tuple #[.int .i64 n, .int .i64 (-1)]) ∧ Below w.heap.size w w' := by
  have Q := hide (tell_arg n w hE)
  have a1 := Tryz.at75 n
  have a2 := Tryz.un79 n
  go_enter Tryz.func48, Tryz.ntmps48
  go_wp2_with (go_at_call 27; refine Q.out.mono ?_; rintro e w1 ⟨rfl, hb1⟩)
  go_loopw [0] (fun i wr => i = .iface 38 (.int .i64 n) ∧ wr = w1) (fun _ _ => 0)
  case atStart => exact ⟨rfl, rfl⟩
  case round =>
    obtain ⟨rfl, hw⟩ := hrel
    subst hw
    go_wp2
    go_ret2
    exact ⟨rfl, hb1⟩
set_option maxRecDepth 100000 in
set_option maxHeartbeats 400000 in
theorem bare_nil (w : World) : Calls Tryz.prog 11 #[.nilIface, .int .i64 0] w fun e w' => e = .returned (.bool true) ∧ w' = w := by
  go_enter Tryz.func11, Tryz.ntmps11
  go_wp2_with (go_at_call 48; refine (place_nil _).mono ?_; rintro e w1 ⟨rfl, rfl⟩)
  go_ret
  exact ⟨rfl, rfl⟩
set_option maxRecDepth 100000 in
set_option maxHeartbeats 400000 in
theorem bare_arg (w : World) (hE : TabE w) : Calls Tryz.prog 11 #[.iface 38 (.int .i64 1), .int .i64 1] w fun e w' => e = .returned (.bool true) ∧ Below w.heap.size w w' := by
  have Q := hide (place_arg 1 w hE)
  go_enter Tryz.func11, Tryz.ntmps11
  go_wp2_with (go_at_call 48; refine Q.out.mono ?_; rintro e w1 ⟨rfl, hb⟩)
  go_ret
  exact ⟨rfl, hb⟩
end Go.Proofs.YtedcbjefkhgiiabGreatDoor

/- The law's own looks: at lengths, at errors. -/
namespace Go.Proofs.YtedcbjefkhgiiabGreatDoor
open Go.RowKit
attribute [local go_sem ↓] Go.wp_at_zero Go.wp_at_succ
set_option maxRecDepth 100000 in
set_option maxHeartbeats 400000 in
theorem longE_any (s : ByteArray) (w : World) : Calls Tryz.prog 9 #[.string s] w fun e w' => e = .returned (.bool (decide (60 < s.size))) ∧ w' = w := by
  go_enter Tryz.func9, Tryz.ntmps9
  go_wp2
  go_ret
  exact ⟨ret_val (by simp; omega), rfl⟩
set_option maxRecDepth 100000 in
set_option maxHeartbeats 400000 in
theorem bareE_same (n : Int) (w : World) (hE : TabE w) : Calls Tryz.prog 11 #[.iface 38 (.int .i64 n), .int .i64 n] w fun e w' => e = .returned (.bool true) ∧ Below w.heap.size w w' := by
  have Q := hide (place_arg n w hE)
  go_enter Tryz.func11, Tryz.ntmps11
  go_wp2_with (go_at_call 48; refine Q.out.mono ?_; rintro e w1 ⟨rfl, hb⟩)
  go_ret
  exact ⟨rfl, hb⟩
set_option maxRecDepth 100000 in
set_option maxHeartbeats 1000000 in
theorem longEvent_any (k : Int) (a b c d : ByteArray) (w : World) : Calls Tryz.prog 10 #[.agg #[.int .i64 k, .string a, .string b, .string c, .string d]] w fun e w' => e = .returned (.bool (decide (60 < a.size) || (decide (60 < b.size) || (decide (60 < c.size) || decide (60 < d.size))))) ∧ Below w.heap.size w w' := by
  have A := hide (fun wx => longE_any a wx)
  have B := hide (fun wx => longE_any b wx)
  have C := hide (fun wx => longE_any c wx)
  have D := hide (fun wx => longE_any d wx)
  have bel := (Below.refl _ w).alloc (Nat.le_refl _) (.cells #[.int .i64 k, .string a, .string b, .string c, .string d] 33)
  generalize decide (60 < a.size) = x at A ⊢
  generalize decide (60 < b.size) = y at B ⊢
  generalize decide (60 < c.size) = z at C ⊢
  generalize decide (60 < d.size) = u at D ⊢
  cases x
  · cases y
    · cases z
      · go_enter Tryz.func10, Tryz.ntmps10
        go_wp2_with (first
          | (go_at_call 9; (with_reducible refine (A.out _).mono ?_); rintro e w1 ⟨rfl, rfl⟩)
          | (go_at_call 9; (with_reducible refine (B.out _).mono ?_); rintro e w1 ⟨rfl, rfl⟩)
          | (go_at_call 9; (with_reducible refine (C.out _).mono ?_); rintro e w1 ⟨rfl, rfl⟩)
          | (go_at_call 9; (with_reducible refine (D.out _).mono ?_); rintro e w1 ⟨rfl, rfl⟩))
        go_ret
        exact ⟨ret_val (by simp), bel⟩
      · go_enter Tryz.func10, Tryz.ntmps10
        go_wp2_with (first
          | (go_at_call 9; (with_reducible refine (A.out _).mono ?_); rintro e w1 ⟨rfl, rfl⟩)
          | (go_at_call 9; (with_reducible refine (B.out _).mono ?_); rintro e w1 ⟨rfl, rfl⟩)
          | (go_at_call 9; (with_reducible refine (C.out _).mono ?_); rintro e w1 ⟨rfl, rfl⟩))
        go_ret
        exact ⟨ret_val (by simp), bel⟩
    · go_enter Tryz.func10, Tryz.ntmps10
      go_wp2_with (first
        | (go_at_call 9; (with_reducible refine (A.out _).mono ?_); rintro e w1 ⟨rfl, rfl⟩)
        | (go_at_call 9; (with_reducible refine (B.out _).mono ?_); rintro e w1 ⟨rfl, rfl⟩))
      go_ret
      exact ⟨ret_val (by simp), bel⟩
  · go_enter Tryz.func10, Tryz.ntmps10
    go_wp2_with (go_at_call 9; (with_reducible refine (A.out _).mono ?_); rintro e w1 ⟨rfl, rfl⟩)
    go_ret
    exact ⟨ret_val (by simp), bel⟩
theorem bareE_nil (w : World) : Calls Tryz.prog 11 #[.nilIface, .int .i64 0] w fun e w' => e = .returned (.bool true) ∧ Below w.heap.size w w' :=
  (bare_nil w).mono fun _ _ ⟨he, hw⟩ => ⟨he, hw ▸ Below.refl _ _⟩
end Go.Proofs.YtedcbjefkhgiiabGreatDoor
