/- How events are written: the document's own Print. -/
import Derived.Test.YtmpfdhnjhpbjgaaDoorRefRight
import Derived.Test.YtmpfdhnjhpbjgaaDoorPrint
namespace Go.Proofs.YtmpfdhnjhpbjgaaDoor
open Go.RowKit
attribute [local go_sem ↓] Go.wp_at_zero Go.wp_at_succ
theorem idx1 (a b c d : ByteArray) (w : World) : (Instr.index 122 (.agg #[.string a, .string b, .string c, .string d]) (.int .i64 1)).run Tryd.prog w = .ok (.string b) w := by kernel_rfl
theorem idx2 (a b c d : ByteArray) (w : World) : (Instr.index 122 (.agg #[.string a, .string b, .string c, .string d]) (.int .i64 2)).run Tryd.prog w = .ok (.string c) w := by kernel_rfl
theorem idx3 (a b c d : ByteArray) (w : World) : (Instr.index 122 (.agg #[.string a, .string b, .string c, .string d]) (.int .i64 3)).run Tryd.prog w = .ok (.string d) w := by kernel_rfl
/-- The three texts, as the document's answer joins them. -/
theorem put_cat (s t r v : ByteArray) : (⟨#[112, 117, 116, 32]⟩ : ByteArray) ++ s ++ ⟨#[32]⟩ ++ t ++ ⟨#[32]⟩ ++ r ++ ⟨#[32]⟩ ++ v = textB ⟨1, s, t, r, v⟩ := by
  refine ba_eq ?_
  rw [textB_data]
  simp [ByteArray.data_append, printL, wPut]
theorem del_cat (s t r v : ByteArray) : (⟨#[100, 101, 108, 32]⟩ : ByteArray) ++ s ++ ⟨#[32]⟩ ++ t ++ ⟨#[32]⟩ ++ r = textB ⟨2, s, t, r, v⟩ := by
  refine ba_eq ?_
  rw [textB_data]
  simp [ByteArray.data_append, printL, wDel]
theorem gone_cat (s t r v : ByteArray) : (⟨#[103, 111, 110, 101, 32]⟩ : ByteArray) ++ s = textB ⟨3, s, t, r, v⟩ := by
  refine ba_eq ?_
  rw [textB_data]
  simp [ByteArray.data_append, printL, wGone]
set_option maxRecDepth 100000 in
set_option maxHeartbeats 1000000 in
theorem refPrint_bad (k : Int) (s t r v : ByteArray) (w : World) (hs : s.size ≤ 1000) (ht : t.size ≤ 1000) (hr : r.size ≤ 1000) (hv : v.size ≤ 1000) (h : rightB ⟨k, s, t, r, v⟩ = false) : Calls Tryd.prog 48 #[.agg #[.int .i64 k, .string s, .string t, .string r, .string v]] w fun e w' => e = .returned (.tuple #[.string ⟨#[]⟩, .int .i64 1]) ∧ Below w.heap.size w w' := by
  have R := hide (fun wx => refRight_any k s t r v wx hs ht hr hv)
  rw [h] at R
  clear h
  have bel := (Below.refl _ w).alloc (Nat.le_refl _) (.cells #[.int .i64 k, .string s, .string t, .string r, .string v] 70)
  go_enter Tryd.func48, Tryd.ntmps48
  go_wp2_with (go_at_call 51; (with_reducible refine (R.out _).mono ?_); rintro e w1 ⟨rfl, hb1⟩)
  go_ret2
  exact ⟨rfl, bel.trans (hb1.mono (by simp))⟩
set_option maxRecDepth 100000 in
set_option maxHeartbeats 1000000 in
theorem refPrint_ok (k : Int) (s t r v : ByteArray) (w : World) (hs : s.size ≤ 1000) (ht : t.size ≤ 1000) (hr : r.size ≤ 1000) (hv : v.size ≤ 1000) (h : rightB ⟨k, s, t, r, v⟩ = true) : Calls Tryd.prog 48 #[.agg #[.int .i64 k, .string s, .string t, .string r, .string v]] w fun e w' => e = .returned (.tuple #[.string (textB ⟨k, s, t, r, v⟩), .int .i64 0]) ∧ Below w.heap.size w w' := by
  have R := hide (fun wx => refRight_any k s t r v wx hs ht hr hv)
  rw [h] at R
  have bel := (Below.refl _ w).alloc (Nat.le_refl _) (.cells #[.int .i64 k, .string s, .string t, .string r, .string v] 70)
  have j1 := fun a b c d wx => idx1 a b c d wx
  have j2 := fun a b c d wx => idx2 a b c d wx
  have j3 := fun a b c d wx => idx3 a b c d wx
  obtain ⟨_, hk⟩ := right_kinds h
  have hk3 : k = 1 ∨ k = 2 ∨ k = 3 := by
    rcases hk with ⟨e, _⟩ | ⟨e, _⟩ | ⟨e, _⟩
    · exact .inl e
    · exact .inr (.inl e)
    · exact .inr (.inr e)
  clear hk h
  rcases hk3 with rfl | rfl | rfl
  · go_enter Tryd.func48, Tryd.ntmps48
    go_wp2_with (go_at_call 51; (with_reducible refine (R.out _).mono ?_); rintro e w1 ⟨rfl, hb1⟩; have hX : HasR w1 w.heap.size 70 #[.int .i64 1, .string s, .string t, .string r, .string v] := (HasR.new w 70 _).below hb1 (by simp); have x0 : w1.cell? ⟨w.heap.size, 0, none⟩ = some (.int .i64 1) := hX.cell 0; have x1 : w1.cell? ⟨w.heap.size, 1, none⟩ = some (.string s) := hX.cell 1; have x2 : w1.cell? ⟨w.heap.size, 2, none⟩ = some (.string t) := hX.cell 2; have x3 : w1.cell? ⟨w.heap.size, 3, none⟩ = some (.string r) := hX.cell 3; have x4 : w1.cell? ⟨w.heap.size, 4, none⟩ = some (.string v) := hX.cell 4; clear hX)
    go_ret2
    exact ⟨by rw [← put_cat]; rfl, bel.trans (hb1.mono (by simp))⟩
  · go_enter Tryd.func48, Tryd.ntmps48
    go_wp2_with (go_at_call 51; (with_reducible refine (R.out _).mono ?_); rintro e w1 ⟨rfl, hb1⟩; have hX : HasR w1 w.heap.size 70 #[.int .i64 2, .string s, .string t, .string r, .string v] := (HasR.new w 70 _).below hb1 (by simp); have x0 : w1.cell? ⟨w.heap.size, 0, none⟩ = some (.int .i64 2) := hX.cell 0; have x1 : w1.cell? ⟨w.heap.size, 1, none⟩ = some (.string s) := hX.cell 1; have x2 : w1.cell? ⟨w.heap.size, 2, none⟩ = some (.string t) := hX.cell 2; have x3 : w1.cell? ⟨w.heap.size, 3, none⟩ = some (.string r) := hX.cell 3; have x4 : w1.cell? ⟨w.heap.size, 4, none⟩ = some (.string v) := hX.cell 4; clear hX)
    go_ret2
    exact ⟨by rw [← del_cat]; rfl, bel.trans (hb1.mono (by simp))⟩
  · go_enter Tryd.func48, Tryd.ntmps48
    go_wp2_with (go_at_call 51; (with_reducible refine (R.out _).mono ?_); rintro e w1 ⟨rfl, hb1⟩; have hX : HasR w1 w.heap.size 70 #[.int .i64 3, .string s, .string t, .string r, .string v] := (HasR.new w 70 _).below hb1 (by simp); have x0 : w1.cell? ⟨w.heap.size, 0, none⟩ = some (.int .i64 3) := hX.cell 0; have x1 : w1.cell? ⟨w.heap.size, 1, none⟩ = some (.string s) := hX.cell 1; have x2 : w1.cell? ⟨w.heap.size, 2, none⟩ = some (.string t) := hX.cell 2; have x3 : w1.cell? ⟨w.heap.size, 3, none⟩ = some (.string r) := hX.cell 3; have x4 : w1.cell? ⟨w.heap.size, 4, none⟩ = some (.string v) := hX.cell 4; clear hX)
    go_ret2
    exact ⟨by rw [← gone_cat]; rfl, bel.trans (hb1.mono (by simp))⟩
end Go.Proofs.YtmpfdhnjhpbjgaaDoor
