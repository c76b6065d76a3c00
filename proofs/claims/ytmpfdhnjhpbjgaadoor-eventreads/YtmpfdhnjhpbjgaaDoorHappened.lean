/- A fact: an event as text. -/
import Derived.Test.YtmpfdhnjhpbjgaaDoorParse
import Derived.Outline
namespace Go.Proofs.YtmpfdhnjhpbjgaaDoor
open Go.RowKit
attribute [local go_sem ↓] Go.wp_at_zero Go.wp_at_succ
theorem held70 : Tryd.prog.stoodInHeld 70 = false := by kernel_rfl
theorem fields70 : Tryd.prog.underlying 70 = some (.struct (Tryd.prog.fieldsOf 70)) := by kernel_rfl
theorem guard70 : Tryd.prog.eqGuardType Tryd.prog.depth 70 = false := by kernel_rfl
/-- An event held against itself. -/
theorem ev_same (k : Int) (s t r v : ByteArray) (w : World) : (Op.equalIn 10000 70 (.agg #[.int .i64 k, .string s, .string t, .string r, .string v]) (.agg #[.int .i64 k, .string s, .string t, .string r, .string v])).run Tryd.prog w = .ok true w := by
  rw [run_equalIn_struct w 9999 70 _ _ fields70 held70]
  simp [Program.fieldsOf, Tryd.underlying70, Op.eqFields, go_sem, run_equalIn_int, run_equalIn_string, Tryd.underlying3, Tryd.underlying9]
theorem ev_eql (k : Int) (s t r v : ByteArray) (w : World) : (binOp .eql 70 (.agg #[.int .i64 k, .string s, .string t, .string r, .string v]) (.agg #[.int .i64 k, .string s, .string t, .string r, .string v])).run Tryd.prog w = .ok (.bool true) w := by
  rw [run_eql_struct, ev_same]; rfl
theorem ev_neq (k : Int) (s t r v : ByteArray) (w : World) : (binOp .neq 70 (.agg #[.int .i64 k, .string s, .string t, .string r, .string v]) (.agg #[.int .i64 k, .string s, .string t, .string r, .string v])).run Tryd.prog w = .ok (.bool false) w := by
  rw [run_neq_struct, ev_same]; rfl
def litB : ByteArray := ⟨#[112, 117, 116, 32, 97, 110, 110, 32, 109, 97, 105, 108, 32, 98, 111, 120, 32, 97, 32, 98]⟩
def litE : Ev := ⟨1, ⟨#[97, 110, 110]⟩, ⟨#[109, 97, 105, 108]⟩, ⟨#[98, 111, 120]⟩, ⟨#[97, 32, 98]⟩⟩
theorem lit_right : rightB litE = true := by decide +kernel
theorem lit_text : textB litE = litB := by decide +kernel
theorem lit_split : splitEv litB = litE := by rw [← lit_text]; exact split_text lit_right
theorem lit_acc : accB litB (splitEv litB) = true := by rw [lit_split, ← lit_text]; exact acc_text lit_right
theorem lit_parse (w : World) (hL : TabL w) (hM : TabM w) : Calls Tryd.prog 53 #[.string ⟨#[112, 117, 116, 32, 97, 110, 110, 32, 109, 97, 105, 108, 32, 98, 111, 120, 32, 97, 32, 98]⟩] w fun e w' => e = .returned (.tuple #[.agg #[.int .i64 1, .string ⟨#[97, 110, 110]⟩, .string ⟨#[109, 97, 105, 108]⟩, .string ⟨#[98, 111, 120]⟩, .string ⟨#[97, 32, 98]⟩], .nilIface]) ∧ Below w.heap.size w w' := by
  have h := parse_ok litB w (by decide) lit_acc hL hM
  rw [lit_split] at h
  exact h
theorem lit_print (w : World) (hL : TabL w) : Calls Tryd.prog 49 #[.agg #[.int .i64 1, .string ⟨#[97, 110, 110]⟩, .string ⟨#[109, 97, 105, 108]⟩, .string ⟨#[98, 111, 120]⟩, .string ⟨#[97, 32, 98]⟩]] w fun e w' => e = .returned (.tuple #[.string ⟨#[112, 117, 116, 32, 97, 110, 110, 32, 109, 97, 105, 108, 32, 98, 111, 120, 32, 97, 32, 98]⟩, .nilIface]) ∧ Below w.heap.size w w' := by
  have h := print_ok litE.k litE.s litE.t litE.r litE.v w lit_right hL
  rw [show (⟨litE.k, litE.s, litE.t, litE.r, litE.v⟩ : Ev) = litE from rfl, lit_text] at h
  exact h
set_option maxRecDepth 100000 in
set_option maxHeartbeats 1000000 in
theorem happened_any (w : World) (hL : TabL w) (hM : TabM w) : Calls Tryd.prog 54 #[] w fun e w' => e = .returned (.bool true) ∧ Below w.heap.size w w' := by
  have A := hide (lit_parse w hL hM)
  have B := hide (fun wx hLx => lit_print wx hLx)
  have hn := fun wx => ev_neq 1 ⟨#[97, 110, 110]⟩ ⟨#[109, 97, 105, 108]⟩ ⟨#[98, 111, 120]⟩ ⟨#[97, 32, 98]⟩ wx
  have hg := guard70
  have hlL := hL.lt
  go_enter Tryd.func54, Tryd.ntmps54
  go_wp2_with (first
    | (go_at_call 53; (with_reducible refine A.out.mono ?_); rintro e w1 ⟨rfl, hb1⟩; have bel1 := hb1.alloc hb1.size (.cells #[.int .i64 1, .string ⟨#[97, 110, 110]⟩, .string ⟨#[109, 97, 105, 108]⟩, .string ⟨#[98, 111, 120]⟩, .string ⟨#[97, 32, 98]⟩] 70); have hL1 := hL.below bel1 hlL)
    | (go_at_call 49; (with_reducible refine (B.out _ hL1).mono ?_); rintro e w2 ⟨rfl, hb2⟩))
  go_ret
  exact ⟨rfl, bel1.trans (hb2.mono (by have := hb1.size; simp; omega))⟩
end Go.Proofs.YtmpfdhnjhpbjgaaDoor
