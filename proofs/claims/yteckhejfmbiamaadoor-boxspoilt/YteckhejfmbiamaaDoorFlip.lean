/- One bit another one: what the law's own pick and flip come to. -/
import Derived.Test.YteckhejfmbiamaaDoorBoxed
namespace Go.Proofs.YteckhejfmbiamaaDoor
open Go.RowKit
attribute [local go_sem ↓] Go.wp_at_zero Go.wp_at_succ
set_option maxRecDepth 100000 in
set_option maxHeartbeats 400000 in
theorem pick_any (a : Int) (n : Nat) (h0 : 0 < n) (hn : n ≤ 1000000) (w : World) :
    Calls Tryd.prog 28 #[.int .i64 a, .int .i64 n] w fun e w' => ∃ c : Nat, c < n ∧ e = .returned (.int .i64 c) ∧ w' = w := by
  have x1 : IntKind.u64.wrap (n : Int) = (n : Int) := by rw [IntKind.wrap_u64]; omega
  have x0 : 0 ≤ IntKind.u64.wrap a := by rw [IntKind.wrap_u64]; omega
  have x00 : IntKind.u64.wrap a < 18446744073709551616 := by rw [IntKind.wrap_u64]; omega
  generalize hu : IntKind.u64.wrap a = u at x0 x00
  have x2 : 0 ≤ u % (n : Int) := Int.emod_nonneg _ (by omega)
  have x3 : u % (n : Int) < (n : Int) := Int.emod_lt_of_pos _ (by omega)
  obtain ⟨c, hc⟩ : ∃ c : Nat, u % (n : Int) = (c : Int) := ⟨(u % (n : Int)).toNat, by omega⟩
  have x4 : IntKind.i64.wrap (c : Int) = (c : Int) := by rw [IntKind.wrap_i64]; omega
  go_enter Tryd.func28, Tryd.ntmps28
  go_wp2
  go_ret
  exact ⟨c, by omega, ret_val rfl, rfl⟩
/-- A text of which at most the byte at one place is another one. -/
def OneOff (s t : ByteArray) : Prop := ∃ i x, t = ⟨(s.data.toList.set i x).toArray⟩
theorem OneOff.size {s t : ByteArray} (h : OneOff s t) : t.size = s.size := by
  obtain ⟨i, x, rfl⟩ := h
  show (s.data.toList.set i x).toArray.size = s.data.size
  simp
theorem OneOff.refl (s : ByteArray) : OneOff s s := ⟨s.size, 0, by
  have e : s.data.toList.set s.size 0 = s.data.toList := List.set_eq_of_length_le (by show s.data.toList.length ≤ s.data.size; simp)
  rw [e]⟩
/-- Its first sixteen bytes are as they were, or the rest is. -/
theorem OneOff.parts {s t : ByteArray} (h : OneOff s t) : t.extract 0 16 = s.extract 0 16 ∨ t.extract 16 t.size = s.extract 16 s.size := by
  have hs := h.size
  obtain ⟨i, x, rfl⟩ := h
  by_cases hi : i < 16
  · right
    rw [hs]
    apply ByteArray.ext
    apply Array.toList_inj.1
    rw [ByteArray.data_extract, ByteArray.data_extract, Array.toList_extract, Array.toList_extract]
    simp only [List.extract_eq_take_drop, List.toList_toArray]
    rw [List.drop_set_of_lt hi]
  · left
    apply ByteArray.ext
    apply Array.toList_inj.1
    rw [ByteArray.data_extract, ByteArray.data_extract, Array.toList_extract, Array.toList_extract]
    simp only [List.extract_eq_take_drop, List.toList_toArray, List.drop_zero]
    rw [List.take_set_of_le (by omega)]
set_option maxRecDepth 100000 in
set_option maxHeartbeats 1000000 in
theorem flip_some (s : ByteArray) (k : Int) (w : World) (h0 : 0 < s.size) (hs : s.size ≤ 1000) :
    Calls Tryd.prog 29 #[.string s, .int .i64 k] w fun e w' => ∃ t, OneOff s t ∧ e = .returned (.string t) ∧ Below w.heap.size w w' := by
  have d1 : s.toList.isEmpty = false := by
    rw [ByteArray.toList_eq]
    have e : s.data.toList.length = s.size := rfl
    cases hl : s.data.toList with
    | nil => rw [hl] at e; simp at e; omega
    | cons a l => rfl
  have p := pick_any k (8 * s.size) (by omega) (by omega)
  rw [show ((8 * s.size : Nat) : Int) = 8 * (s.size : Int) by omega] at p
  have P := hide p
  clear p
  go_enter Tryd.func29, Tryd.ntmps29
  go_wp2_with (first
    | ((with_reducible refine conv_in s ?_ ?_); rfl; intro cap w1 hr1 hg1 hz1)
    | (go_at_call 28; (with_reducible refine (P.out _).mono ?_); rintro e w2 ⟨c, hc, rfl, rfl⟩))
  have f1 := hr1.free (c / 8) (by omega)
  have c1 := hr1.cellB (c / 8) (by omega)
  have i1 : (c : Int) / 8 < (s.size : Int) := by omega
  have i2 : ((c : Int) / 8).toNat = c / 8 := by omega
  have i3 : 0 ≤ (c : Int) / 8 := by omega
  generalize s.data.toList.getD (c / 8) 0 = x at c1
  have hy : (2 ^ (c % 8) % 256 : Int) = ((UInt8.ofNat (2 ^ (c % 8))).toNat : Int) := by
    rw [UInt8.toNat_ofNat']
    simp
  generalize UInt8.ofNat (2 ^ (c % 8)) = y at hy
  have hb1 : Below w.heap.size w w2 := (Below.refl _ w).grown hg1 (Nat.le_refl _) (by intro k hk; simp at hk)
  clear d1 P hg1 hz1
  go_region
  all_goals (
    rw [B_xor]
    have hr2 := (hr1.setB (c / 8) (x ^^^ y)).drew
    have hb2 := (hb1.setCell (p := ⟨w.heap.size, c / 8, none⟩) (Nat.le_refl _) (.int .u8 ((x ^^^ y).toNat : Int))).drew
    generalize hl : s.data.toList.set (c / 8) (x ^^^ y) = l at hr2
    have Hl := hide hl
    clear hl
    go_wp2_with ((with_reducible refine conv_out w.heap.size s.size cap l ?_ hr2 ?_); rfl)
    go_ret
    exact ⟨_, ⟨c / 8, x ^^^ y, by rw [Hl.out]⟩, rfl, hb2⟩)
set_option maxRecDepth 100000 in
set_option maxHeartbeats 1000000 in
theorem flip_any (s : ByteArray) (k : Int) (w : World) (hs : s.size ≤ 1000) :
    Calls Tryd.prog 29 #[.string s, .int .i64 k] w fun e w' => ∃ t, OneOff s t ∧ e = .returned (.string t) ∧ Below w.heap.size w w' := by
  by_cases h0 : 0 < s.size
  · exact flip_some s k w h0 hs
  · have d1 : s.toList.isEmpty = true := by
      rw [ByteArray.toList_eq]
      have e : s.data.toList.length = s.size := rfl
      cases hl : s.data.toList with
      | nil => rfl
      | cons a l => rw [hl] at e; simp at e; omega
    go_enter Tryd.func29, Tryd.ntmps29
    go_wp2
    go_ret
    exact ⟨s, OneOff.refl s, rfl, Below.refl _ _⟩
end Go.Proofs.YteckhejfmbiamaaDoor
