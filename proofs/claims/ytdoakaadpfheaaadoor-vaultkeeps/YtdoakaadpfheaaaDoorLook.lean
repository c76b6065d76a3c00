/- The law's own looks: at a text's length, at errors; the document's numbers as New lays them. -/
import Derived.Test.YtdoakaadpfheaaaDoorNew
import Derived.Test.YtdoakaadpfheaaaDoorBare
import Derived.Test.YtdoakaadpfheaaaDoorRefMark
namespace Go.Proofs.YtdoakaadpfheaaaDoor
open Go.RowKit
attribute [local go_sem ↓] Go.wp_at_zero Go.wp_at_succ
set_option maxRecDepth 100000 in
set_option maxHeartbeats 400000 in
theorem long_any (s : ByteArray) (w : World) : Calls Tryd.prog 9 #[.string s] w fun e w' => e = .returned (.bool (decide (60 < s.size))) ∧ w' = w := by
  go_enter Tryd.func9, Tryd.ntmps9
  go_wp2
  go_ret
  exact ⟨ret_val (by simp; omega), rfl⟩
set_option maxRecDepth 100000 in
set_option maxHeartbeats 400000 in
/-- The law's look at an error of the program's own and the document's number of it. -/
theorem bare_same (n : Int) (w : World) (hE : TabE w) : Calls Tryd.prog 21 #[.iface 30 (.int .i64 n), .int .i64 n] w fun e w' => e = .returned (.bool true) ∧ Below w.heap.size w w' := by
  have Q := hide (place_arg n w hE)
  go_enter Tryd.func21, Tryd.ntmps21
  go_wp2_with (go_at_call 58; refine Q.out.mono ?_; rintro e w1 ⟨rfl, hb⟩)
  go_ret
  exact ⟨rfl, hb⟩
theorem same_below {P : Program} {f : FuncId} {args : Array Value} {w : World} {v : Value} (h : Calls P f args w fun e w' => e = .returned v ∧ w' = w) : Calls P f args w fun e w' => e = .returned v ∧ Below w.heap.size w w' :=
  h.mono fun _ _ ⟨he, hw⟩ => ⟨he, hw ▸ Below.refl _ _⟩
theorem refR_of {w : World} {b : Nat} (h : HasW w b 73 (newTo 64)) : RefR w b := by
  rw [new_full] at h
  have h8 : st0.l.length = 8 := rfl
  have h64 : kTab.length = 64 := rfl
  refine ⟨fun i hi => ?_, fun i hi => ?_⟩
  · rw [h.cell i (by simp [h8, h64]; omega)]
    congr 3
    unfold wd
    rw [List.getD_eq_getElem?_getD, List.getElem?_append_left (by omega), ← List.getD_eq_getElem?_getD]
  · rw [h.cell (8 + i) (by simp [h8, h64]; omega)]
    congr 3
    unfold wd
    rw [List.getD_eq_getElem?_getD, List.getElem?_append_right (by omega), ← List.getD_eq_getElem?_getD]
    congr 1
    omega
end Go.Proofs.YtdoakaadpfheaaaDoor
