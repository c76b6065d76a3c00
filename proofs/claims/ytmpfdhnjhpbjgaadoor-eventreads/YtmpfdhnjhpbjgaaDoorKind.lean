/- Which kind a word is: the program's own kindOf. -/
import Derived.Test.YtmpfdhnjhpbjgaaDoorPrint
namespace Go.Proofs.YtmpfdhnjhpbjgaaDoor
open Go.RowKit
attribute [local go_sem ↓] Go.wp_at_zero Go.wp_at_succ
def word0 : ByteArray := ⟨#[]⟩
def word1 : ByteArray := ⟨#[112, 117, 116]⟩
def word2 : ByteArray := ⟨#[100, 101, 108]⟩
def word3 : ByteArray := ⟨#[103, 111, 110, 101]⟩
theorem lay_index0 (w : World) : (Instr.index 125 (.agg layRow) (.int .i64 0)).run Tryd.prog w = .ok (.agg #[.string word0, .int .i64 0]) w := by kernel_rfl
theorem lay_index1 (w : World) : (Instr.index 125 (.agg layRow) (.int .i64 1)).run Tryd.prog w = .ok (.agg #[.string word1, .int .i64 5]) w := by kernel_rfl
theorem lay_index2 (w : World) : (Instr.index 125 (.agg layRow) (.int .i64 2)).run Tryd.prog w = .ok (.agg #[.string word2, .int .i64 4]) w := by kernel_rfl
theorem lay_index3 (w : World) : (Instr.index 125 (.agg layRow) (.int .i64 3)).run Tryd.prog w = .ok (.agg #[.string word3, .int .i64 2]) w := by kernel_rfl
/-- Which of four is the first. -/
def firstOf (b0 b1 b2 b3 : Bool) : Int := if b0 then 0 else if b1 then 1 else if b2 then 2 else if b3 then 3 else 0
theorem eq_words (a : ByteArray) (s : ByteArray) : (a.toList == s.toList) = decide (s.data.toList = a.data.toList) := by
  rw [Lib.toList_data, Lib.toList_data]
  by_cases h : s.data.toList = a.data.toList
  · rw [h]; simp
  · rw [decide_eq_false h, beq_eq_false_iff_ne]; exact fun e => h e.symm
theorem kind_first (s : ByteArray) : kindB s.data.toList = firstOf (word0.toList == s.toList) (word1.toList == s.toList) (word2.toList == s.toList) (word3.toList == s.toList) := by
  rw [eq_words, eq_words, eq_words, eq_words]
  unfold kindB firstOf
  have e0 : word0.data.toList = [] := rfl
  have e1 : word1.data.toList = wPut := rfl
  have e2 : word2.data.toList = wDel := rfl
  have e3 : word3.data.toList = wGone := rfl
  rw [e0, e1, e2, e3]
  by_cases h0 : s.data.toList = []
  · rw [h0]; decide
  · simp only [h0, decide_false, Bool.false_eq_true, if_false, decide_eq_true_eq]
set_option maxRecDepth 100000 in
set_option maxHeartbeats 1000000 in
theorem kindOf_any (s : ByteArray) (w : World) (hL : TabL w) : Calls Tryd.prog 108 #[.string s] w fun e w' => e = .returned (.int .i64 (kindB s.data.toList)) ∧ Below w.heap.size w w' := by
  rw [kind_first]
  obtain ⟨b0, c0⟩ : ∃ b, (word0.toList == s.toList) = b := ⟨_, rfl⟩
  obtain ⟨b1, c1⟩ : ∃ b, (word1.toList == s.toList) = b := ⟨_, rfl⟩
  obtain ⟨b2, c2⟩ : ∃ b, (word2.toList == s.toList) = b := ⟨_, rfl⟩
  obtain ⟨b3, c3⟩ : ∃ b, (word3.toList == s.toList) = b := ⟨_, rfl⟩
  rw [c0, c1, c2, c3]
  have i0 := lay_index0
  have i1 := lay_index1
  have i2 := lay_index2
  have i3 := lay_index3
  have hg : w.heap[0]? = some (.cells layRow 125 (0, 0)) := hL
  have hI : (Tryd.prog.info? 125).map (·.size) = some layRow.size := by kernel_rfl
  generalize layRow = L at hg hI i0 i1 i2 i3
  generalize word0 = d0 at c0 i0
  generalize word1 = d1 at c1 i1
  generalize word2 = d2 at c2 i2
  generalize word3 = d3 at c3 i3
  clear hL
  go_enter Tryd.func108, Tryd.ntmps108
  go_wp2_with (refine wpList_load_row rfl 125 _ rfl 0 rfl 125 L (0, 0) _ hg Tryd.underlying125 rfl hI ?_)
  clear hg hI
  go_loopw [6] (fun i wr => ∃ k : Nat, k ≤ 4 ∧ i = .int .i64 k ∧ Below w.heap.size w wr ∧ Hid ((0 < k → b0 = false) ∧ (1 < k → b1 = false) ∧ (2 < k → b2 = false) ∧ (3 < k → b3 = false))) (fun i _ => 4 - (intOf i).toNat)
  case atStart => exact ⟨0, by omega, rfl, Below.refl _ _, hide ⟨fun h => absurd h (by omega), fun h => absurd h (by omega), fun h => absurd h (by omega), fun h => absurd h (by omega)⟩⟩
  case round =>
    obtain ⟨k, hk, rfl, hb, hh⟩ := hrel
    match k, hk with
    | 0, _ =>
      have hlt : (0 : Int) < 4 := by decide
      cases b0
      · go_wp2
        go_roundw
        case rel => exact ⟨1, by omega, by go_num, hb.alloc hb.size _, hide ⟨by simp, by simp, by simp, by simp⟩⟩
        case measure => simp [intOf]
      · go_wp2
        go_ret
        exact ⟨rfl, hb.alloc hb.size _⟩
    | 1, _ =>
      obtain rfl := hh.out.1 (by omega)
      have hlt : (1 : Int) < 4 := by decide
      cases b1
      · go_wp2
        go_roundw
        case rel => exact ⟨2, by omega, by go_num, hb.alloc hb.size _, hide ⟨by simp, by simp, by simp, by simp⟩⟩
        case measure => simp [intOf]
      · go_wp2
        go_ret
        exact ⟨rfl, hb.alloc hb.size _⟩
    | 2, _ =>
      obtain rfl := hh.out.1 (by omega)
      obtain rfl := hh.out.2.1 (by omega)
      have hlt : (2 : Int) < 4 := by decide
      cases b2
      · go_wp2
        go_roundw
        case rel => exact ⟨3, by omega, by go_num, hb.alloc hb.size _, hide ⟨by simp, by simp, by simp, by simp⟩⟩
        case measure => simp [intOf]
      · go_wp2
        go_ret
        exact ⟨rfl, hb.alloc hb.size _⟩
    | 3, _ =>
      obtain rfl := hh.out.1 (by omega)
      obtain rfl := hh.out.2.1 (by omega)
      obtain rfl := hh.out.2.2.1 (by omega)
      have hlt : (3 : Int) < 4 := by decide
      cases b3
      · go_wp2
        go_roundw
        case rel => exact ⟨4, by omega, by go_num, hb.alloc hb.size _, hide ⟨by simp, by simp, by simp, by simp⟩⟩
        case measure => simp [intOf]
      · go_wp2
        go_ret
        exact ⟨rfl, hb.alloc hb.size _⟩
    | 4, _ =>
      obtain rfl := hh.out.1 (by omega)
      obtain rfl := hh.out.2.1 (by omega)
      obtain rfl := hh.out.2.2.1 (by omega)
      obtain rfl := hh.out.2.2.2 (by omega)
      have hlt : ¬ (4 : Int) < 4 := by decide
      go_wp2
      go_ret
      exact ⟨rfl, hb⟩
    | k + 5, hk => omega
end Go.Proofs.YtmpfdhnjhpbjgaaDoor
